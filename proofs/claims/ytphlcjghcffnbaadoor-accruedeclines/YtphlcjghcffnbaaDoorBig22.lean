/-
  The contract of dayref1's Ratio: a part to the nearest, a half to the even one.
-/
import Derived.Test.YtphlcjghcffnbaaDoorBig21
namespace Go.Proofs.YtphlcjghcffnbaaDoor
set_option linter.unusedVariables false
open Go.RowKit Big

/-- A part, as the document's answer reckons it. -/
def refQ (a n d : Int) : Int := if (a * (2 * n) + d) % (2 * d) = 0 ∧ (a * (2 * n) + d) / (2 * d) % 2 = 1 then (a * (2 * n) + d) / (2 * d) - 1 else (a * (2 * n) + d) / (2 * d)

theorem below_g2 {B : Nat} {w a b : World} {p q : Nat} (h : Below B w a) (k : Grown2 a b p q) (hp : B ≤ p) (hq : B ≤ q) (hs : B ≤ a.heap.size) : Below B w b :=
  h.trans ⟨k.os, k.tape, k.output, k.size, fun i hi => k.block i (by omega) (by omega) (by omega)⟩
theorem below_g {B : Nat} {w a b : World} {row : Option Nat} (h : Below B w a) (k : a.grownBy b row) (hs : B ≤ a.heap.size) (hr : ∀ p, row = some p → B ≤ p) : Below B w b := h.grown k hs hr

/-- The sign of a number. -/
def sgnI (x : Int) : Int := if x = 0 then 0 else if x < 0 then -1 else 1
theorem sign_big (p : Nat) (x : Int) (w : World) (h : BigIs w p x) :
    Calls Tryd.prog 14 #[.pointer (some ⟨p, 0, none⟩)] w fun e w' => e = .returned (.int .i64 (sgnI x)) ∧ w' = w := by
  obtain ⟨neg, v, l, hb, rfl⟩ := h
  have := sign_any p neg v l w hb
  have e : sgnV neg (val l) = sgnI (sg neg (val l)) := by
    unfold sgnV sgnI sg
    cases neg
    · by_cases h0 : val l = 0
      · simp [h0]
      · simp [h0] <;> omega
    · by_cases h0 : val l = 0
      · simp [h0]
      · simp [h0] <;> omega
  rw [e] at this
  exact this

theorem ref_out (a n d : Int) (w : World) (h : n < 0 ∨ 1000000000 < n ∨ d < 1 ∨ 1000000000 < d) :
    Calls Tryd.prog 5 #[.int .i64 a, .int .i64 n, .int .i64 d] w fun e w' => e = .returned (.tuple #[.int .i64 0, .int .i64 1]) ∧ w' = w := by
  by_cases c1 : n < 0
  · go_enter Tryd.func5, Tryd.ntmps5
    go_wp2
    go_ret2
    exact ⟨rfl, rfl⟩
  by_cases c2 : 1000000000 < n
  · go_enter Tryd.func5, Tryd.ntmps5
    go_wp2
    go_ret2
    exact ⟨rfl, rfl⟩
  by_cases c3 : d < 1
  · go_enter Tryd.func5, Tryd.ntmps5
    go_wp2
    go_ret2
    exact ⟨rfl, rfl⟩
  have c4 : 1000000000 < d := by omega
  go_enter Tryd.func5, Tryd.ntmps5
  go_wp2
  go_ret2
  exact ⟨rfl, rfl⟩

/-- What stands ahead of the rounding. -/
def RMid (w W : World) (pq pm : Nat) (Q R : Int) : Prop := BigIs W pq Q ∧ BigIs W pm R ∧ Below w.heap.size w W ∧ w.heap.size ≤ pq ∧ w.heap.size ≤ W.heap.size

set_option maxHeartbeats 4000000 in
theorem ref_in (a n d : Int) (w : World) (ha : -9223372036854775808 ≤ a) (ha2 : a ≤ 9223372036854775807) (hn : 0 ≤ n) (hn2 : n ≤ 1000000000) (hd : 1 ≤ d) (hd2 : d ≤ 1000000000) :
    Calls Tryd.prog 5 #[.int .i64 a, .int .i64 n, .int .i64 d] w fun e w' => e = .returned (.tuple #[.int .i64 (rV (refQ a n d)), .int .i64 (rE (refQ a n d))]) ∧ Hid (w.grownBy w' none) := by
  obtain ⟨P, hP⟩ : ∃ P, a * (2 * n) = P := ⟨_, rfl⟩
  have bP : -18446744073709551616000000000 ≤ P ∧ P ≤ 18446744073709551616000000000 := by
    rw [← hP]
    have u := Int.mul_le_mul_of_nonneg_right ha2 (by omega : 0 ≤ 2 * n)
    have v := Int.mul_le_mul_of_nonneg_right ha (by omega : 0 ≤ 2 * n)
    omega
  have fa : Few a := by unfold Few; omega
  have fn : Few (2 * n) := by unfold Few; omega
  have fP : Few P := by unfold Few; omega
  have fd : Few d := by unfold Few; omega
  have fX : Few (P + d) := by unfold Few; omega
  obtain ⟨Q, hQ⟩ : ∃ Q, (P + d) / (2 * d) = Q := ⟨_, rfl⟩
  obtain ⟨R, hR⟩ : ∃ R, (P + d) % (2 * d) = R := ⟨_, rfl⟩
  have R0 : 0 ≤ R := by rw [← hR]; exact Int.emod_nonneg _ (by omega)
  have bQ : -18446744073709551617000000000 ≤ Q ∧ Q ≤ 18446744073709551617000000000 := by
    have e := Int.mul_ediv_add_emod (P + d) (2 * d)
    have r1 := Int.emod_lt_of_pos (P + d) (by omega : 0 < 2 * d)
    rw [hQ, hR] at e
    rw [hR] at r1
    constructor
    · apply Classical.byContradiction
      intro hc
      have := Int.mul_le_mul_of_nonneg_left (by omega : Q ≤ -18446744073709551617000000001) (by omega : 0 ≤ 2 * d)
      omega
    · apply Classical.byContradiction
      intro hc
      have := Int.mul_le_mul_of_nonneg_left (by omega : 18446744073709551617000000001 ≤ Q) (by omega : 0 ≤ 2 * d)
      omega
  have fQ : Few Q := by unfold Few; omega
  have fQ1 : Few (Q - 1) := by unfold Few; omega
  have ER : Hid (refQ a n d = if R = 0 ∧ Q % 2 = 1 then Q - 1 else Q) := by unfold Hid refQ; rw [hP, hQ, hR]
  generalize refQ a n d = res at *
  -- the calls, one by one
  have S1 : Hid (Calls Tryd.prog 10 #[.int .i64 a] w fun e w' => e = .returned (.pointer (some ⟨w.heap.size, 0, none⟩)) ∧ BigIs w' w.heap.size a ∧ w.grownBy w' none) := big_any a w ha ha2
  clear bP bQ
  go_enter Tryd.func5, Tryd.ntmps5
  go_wp2_with fail
  refine S1.out.mono ?_
  rintro e w1 ⟨rfl, b1, g1⟩
  have H1 : Hid (BigIs w1 w.heap.size a ∧ Below w.heap.size w w1) := ⟨b1, gbelow g1⟩
  have l1 : w.heap.size < w1.heap.size := b1.lt
  clear b1 g1 S1
  go_wp2_with fail
  refine (big_any (2 * n) w1 (by omega) (by omega)).mono ?_
  rintro e w2 ⟨rfl, b2, g2⟩
  have H2 : Hid (BigIs w2 w1.heap.size (2 * n) ∧ BigIs w2 w.heap.size a ∧ Below w.heap.size w w2) := ⟨b2, H1.out.1.growBy g2, below_g H1.out.2 g2 (by omega) (by simp)⟩
  have l2 : w1.heap.size < w2.heap.size := b2.lt
  clear b2 g2 H1
  go_wp2_with fail
  refine (mul_big w.heap.size w.heap.size w1.heap.size a a (2 * n) w2 H2.out.2.1 H2.out.2.1 H2.out.1 fa fn).mono ?_
  rintro e w3 ⟨rfl, h3⟩
  have H3 : Hid (BigIs w3 w.heap.size P ∧ Below w.heap.size w w3) := by
    have := h3.out.1
    rw [hP] at this
    exact ⟨this, below_g H2.out.2.2 h3.out.2 (by omega) (fun p e => by cases e; exact Nat.le_refl _)⟩
  have l3 : w.heap.size < w3.heap.size := H3.out.1.lt
  clear h3 H2 l1 l2
  go_wp2_with fail
  refine (big_any d w3 (by omega) (by omega)).mono ?_
  rintro e w4 ⟨rfl, b4, g4⟩
  have H4 : Hid (BigIs w4 w3.heap.size d ∧ BigIs w4 w.heap.size P ∧ Below w.heap.size w w4) := ⟨b4, H3.out.1.growBy g4, below_g H3.out.2 g4 (by omega) (by simp)⟩
  have l4 : w3.heap.size < w4.heap.size := b4.lt
  clear b4 g4 H3
  go_wp2_with fail
  refine (add_big w.heap.size w.heap.size w3.heap.size P P d w4 H4.out.2.1 H4.out.2.1 H4.out.1 fP fd).mono ?_
  rintro e w5 ⟨rfl, h5⟩
  have H5 : Hid (BigIs w5 w.heap.size (P + d) ∧ Below w.heap.size w w5) := ⟨h5.out.1, below_g H4.out.2.2 h5.out.2 (by omega) (fun p e => by cases e; exact Nat.le_refl _)⟩
  have l5 : w.heap.size < w5.heap.size := H5.out.1.lt
  clear h5 H4 l3 l4
  obtain ⟨w7, hw7⟩ : ∃ w7, (w5.alloc (.cells #[.bool false, .slice none 0 0] 40)).alloc (.cells #[.bool false, .slice none 0 0] 40) = w7 := ⟨_, rfl⟩
  have sz7 : w7.heap.size = w5.heap.size + 1 + 1 := by rw [← hw7]; simp
  have H7 : Hid (BigIs w7 w5.heap.size 0 ∧ BigIs w7 (w5.heap.size + 1) 0 ∧ BigIs w7 w.heap.size (P + d) ∧ Below w.heap.size w w7) := by
    have ga := World.grownBy_alloc w5 (.cells #[.bool false, .slice none 0 0] 40) none
    have gb := World.grownBy_alloc (w5.alloc (.cells #[.bool false, .slice none 0 0] 40)) (.cells #[.bool false, .slice none 0 0] 40) none
    have n2 := bigis_new (w5.alloc (.cells #[.bool false, .slice none 0 0] 40))
    rw [show (w5.alloc (.cells #[.bool false, .slice none 0 0] 40)).heap.size = w5.heap.size + 1 by simp] at n2
    rw [← hw7]
    exact ⟨(bigis_new w5).growBy gb, n2, (H5.out.1.growBy ga).growBy gb, (H5.out.2.alloc (by omega) _).alloc (by simp; omega) _⟩
  have S8 : Hid (Calls Tryd.prog 10 #[.int .i64 (2 * d)] w7 fun e w' => e = .returned (.pointer (some ⟨w5.heap.size + 1 + 1, 0, none⟩)) ∧ Hid (BigIs w' (w5.heap.size + 1 + 1) (2 * d) ∧ w7.grownBy w' none)) := by
    refine (big_any (2 * d) w7 (by omega) (by omega)).mono ?_
    rintro e w' ⟨rfl, hb, hg⟩
    rw [sz7] at hb ⊢
    exact ⟨rfl, hb, hg⟩
  clear H5
  go_wp2_with fail
  refine S8.out.mono ?_
  rintro e w8 ⟨rfl, h8⟩
  have H8 : Hid (BigIs w8 w5.heap.size 0 ∧ BigIs w8 (w5.heap.size + 1) 0 ∧ BigIs w8 w.heap.size (P + d) ∧ BigIs w8 (w5.heap.size + 1 + 1) (2 * d) ∧ Below w.heap.size w w8 ∧ w.heap.size ≤ w8.heap.size) := by
    obtain ⟨a1, a2, a3, a4⟩ := H7.out
    have := h8.out.2.size
    exact ⟨a1.growBy h8.out.2, a2.growBy h8.out.2, a3.growBy h8.out.2, h8.out.1, below_g a4 h8.out.2 (by omega) (by simp), by omega⟩
  clear h8 S8 H7 hw7 sz7 w7
  go_wp2_with fail
  refine (divMod_big w5.heap.size w.heap.size (w5.heap.size + 1 + 1) (w5.heap.size + 1) 0 0 (P + d) (2 * d) w8 H8.out.1 H8.out.2.1 (by omega) H8.out.2.2.1 H8.out.2.2.2.1 fX (by omega) (by omega)).mono ?_
  rintro e w9 ⟨rfl, h9⟩
  have H9 : Hid (RMid w w9 w5.heap.size (w5.heap.size + 1) Q R) := by
    obtain ⟨a1, a2, a3, a4⟩ := h9.out
    rw [hQ] at a1
    rw [hR] at a2
    have := a3.size
    have h6 := H8.out.2.2.2.2.2
    exact ⟨a1, a2, below_g2 H8.out.2.2.2.2.1 a3 (by omega) (by omega) h6, by omega, by omega⟩
  clear h9 H8 hP hQ hR
  generalize w5.heap.size + 1 + 1 = p8 at *
  generalize w5.heap.size + 1 = pm at *
  generalize w5.heap.size = pq at *
  go_wp2_with fail
  refine (sign_big pm R w9 H9.out.2.1).mono ?_
  rintro e w' ⟨rfl, hw⟩
  rw [hw]; clear hw w'
  by_cases r0 : R = 0
  · subst r0
    have s0 : sgnI 0 = 0 := rfl
    rw [s0]
    go_wp2_with fail
    refine (bit_big pq Q w9 H9.out.1 fQ).mono ?_
    rintro e w10 ⟨rfl, h10⟩
    have H10 : Hid (BigIs w10 pq Q ∧ Below w.heap.size w w10 ∧ w.heap.size ≤ w10.heap.size ∧ w.heap.size ≤ pq) := by
      obtain ⟨a1, a2, a3, a4, a5⟩ := H9.out
      have := h10.out.size
      exact ⟨a1.growBy h10.out, below_g a3 h10.out a5 (by simp), by omega, a4⟩
    clear h10 H9
    by_cases q1 : Q % 2 = 1
    · have e1 : res = Q - 1 := by rw [ER.out]; simp [q1]
      subst e1
      have q1' : (Q % 2 == 1) = true := by simp [q1]
      rw [q1]
      clear ER q1 q1'
      go_wp2_with fail
      refine (big_any 1 w10 (by omega) (by omega)).mono ?_
      rintro e w11 ⟨rfl, b11, g11⟩
      have H11 : Hid (BigIs w11 w10.heap.size 1 ∧ BigIs w11 pq Q ∧ Below w.heap.size w w11 ∧ w.heap.size ≤ w11.heap.size) := by
        have := g11.size
        exact ⟨b11, H10.out.1.growBy g11, below_g H10.out.2.1 g11 H10.out.2.2.1 (by simp), by have := H10.out.2.2.1; omega⟩
      clear b11 g11
      go_wp2_with fail
      refine (sub_big pq pq w10.heap.size Q Q 1 w11 H11.out.2.1 H11.out.2.1 H11.out.1 fQ (by unfold Few; omega)).mono ?_
      rintro e w12 ⟨rfl, h12⟩
      have H12 : Hid (BigIs w12 pq (Q - 1) ∧ Below w.heap.size w w12) := ⟨h12.out.1, below_g H11.out.2.2.1 h12.out.2 H11.out.2.2.2 (fun p e => by cases e; exact H10.out.2.2.2)⟩
      clear h12 H11 H10
      go_wp2_with fail
      refine (small_any pq (Q - 1) w12 H12.out.1 fQ1.1 fQ1.2).mono ?_
      rintro e w' ⟨rfl, hw⟩
      rw [hw]; clear hw w'
      have HB : Hid (w.grownBy w12 none) := belowg H12.out.2
      clear H12
      go_wp2
      go_ret2
      exact ⟨rfl, HB⟩
    · have e1 : res = Q := by rw [ER.out]; simp [q1]
      subst e1
      have q0 : res % 2 = 0 := by omega
      rw [q0]
      clear ER q1 q0
      go_wp2_with fail
      refine (small_any pq res w10 H10.out.1 fQ.1 fQ.2).mono ?_
      rintro e w' ⟨rfl, hw⟩
      rw [hw]; clear hw w'
      have HB : Hid (w.grownBy w10 none) := belowg H10.out.2.1
      clear H10
      go_wp2
      go_ret2
      exact ⟨rfl, HB⟩
  · have e1 : res = Q := by rw [ER.out, if_neg (fun h => r0 h.1)]
    subst e1
    have s1 : sgnI R = 1 := by unfold sgnI; rw [if_neg r0, if_neg (by omega)]
    rw [s1]
    clear ER
    go_wp2_with fail
    refine (small_any pq res w9 H9.out.1 fQ.1 fQ.2).mono ?_
    rintro e w' ⟨rfl, hw⟩
    rw [hw]; clear hw w'
    have HB : Hid (w.grownBy w9 none) := belowg H9.out.2.2.1
    clear H9
    go_wp2
    go_ret2
    exact ⟨rfl, HB⟩
end Go.Proofs.YtphlcjghcffnbaaDoor
