/-
  The contracts of dayref1's Find and Convert, over any list whose rates are known.
-/
import Derived.Test.YtoggclbhjoodoaaDoorRefR3
import Derived.Test.YtoggclbhjoodoaaDoorBig24
import Derived.Test.YtoggclbhjoodoaaDoorBig22
namespace Go.Proofs.YtoggclbhjoodoaaDoor
set_option linter.unusedVariables false
set_option linter.unusedSimpArgs false
set_option maxRecDepth 100000
open Go.RowKit Go.Lib Go.Maps Big

/-- What is asked of a list. -/
structure RefC (w : World) (a : Option Addr) (len cap : Nat) (rs : List Rt) : Prop where
  rates : ∀ W, Below w.heap.size w W → Calls Tryd.prog 4 #[.slice a len cap] W fun e w' => e = .returned (.int .i64 (ratesS rs)) ∧ Below w.heap.size w w'
  dir : ratesS rs = 0 → ∀ f t p W, Below w.heap.size w W → Calls Tryd.prog 18 #[.slice a len cap, .string f, .string t, .int .i64 p] W fun e w' => e = .returned (dirV (dirS rs f t p)) ∧ Below w.heap.size w w'

theorem dirS_range {rs : List Rt} (h0 : ratesS rs = 0) {f t : ByteArray} {p : Int} (hf : isCur f = true) (ht : isCur t = true) (hne : f ≠ t) (hp : upTo p 120 = true) {v : Int × Int} (h : dirS rs f t p = some v) :
    (1 ≤ v.1 ∧ v.1 ≤ 1000000000) ∧ 1 ≤ v.2 ∧ v.2 ≤ 1000000000 := by
  obtain ⟨e0, e1⟩ := ratesS_eq rs
  obtain ⟨g1, _, _⟩ := tabS_good rs
  obtain ⟨h1, h2⟩ := (e1 (e0 ▸ h0) f t p hf ht hne hp).2 v h
  have := g1 _ h1
  rw [h2] at this
  exact this

theorem int64_big (p : Nat) (x : Int) (w : World) (h : BigIs w p x) (hm : Mid63 x) :
    Calls Tryd.prog 24 #[.pointer (some ⟨p, 0, none⟩)] w fun e w' => e = .returned (.int .i64 x) ∧ w' = w := by
  obtain ⟨v, l, hb, ex, l2⟩ := mid_open h hm
  have e1 : sg false (val l) = x := ex
  have := int64_any p false v l w hb l2 (by rw [e1]; have := hm.1; omega) (by rw [e1]; have := hm.2; omega)
  rw [e1] at this
  exact this

/-- The numbers of two rates, one after the other. -/
theorem chain_walk (n d p q : Int) (w : World) (hn : 1 ≤ n ∧ n ≤ 1000000000) (hd : 1 ≤ d ∧ d ≤ 1000000000) (hp : 1 ≤ p ∧ p ≤ 1000000000) (hq : 1 ≤ q ∧ q ≤ 1000000000) :
    ∃ N M g : Nat, n * p = N ∧ d * q = M ∧ Nat.gcd N M = g ∧ (1 ≤ N ∧ N ≤ 1000000000000000000) ∧ (1 ≤ M ∧ M ≤ 1000000000000000000) ∧ (1 ≤ g ∧ g ≤ N) ∧
      chainS n.toNat d.toNat p.toNat q.toNat = if 1000000000 < N / g ∨ 1000000000 < M / g then (0, 0, 10) else (((N / g : Nat) : Int), ((M / g : Nat) : Int), 0) := by
  obtain ⟨n, rfl⟩ := Int.eq_ofNat_of_zero_le (by omega : 0 ≤ n)
  obtain ⟨d, rfl⟩ := Int.eq_ofNat_of_zero_le (by omega : 0 ≤ d)
  obtain ⟨p, rfl⟩ := Int.eq_ofNat_of_zero_le (by omega : 0 ≤ p)
  obtain ⟨q, rfl⟩ := Int.eq_ofNat_of_zero_le (by omega : 0 ≤ q)
  have n1 : 1 ≤ n * p := Nat.mul_pos (by omega) (by omega)
  have m1 : 1 ≤ d * q := Nat.mul_pos (by omega) (by omega)
  have n2 : n * p ≤ 1000000000 * 1000000000 := Nat.mul_le_mul (by omega) (by omega)
  have m2 : d * q ≤ 1000000000 * 1000000000 := Nat.mul_le_mul (by omega) (by omega)
  refine ⟨n * p, d * q, Nat.gcd (n * p) (d * q), by simp, by simp, rfl, ⟨n1, by omega⟩, ⟨m1, by omega⟩, ⟨Nat.gcd_pos_of_pos_left _ n1, Nat.gcd_le_left _ n1⟩, ?_⟩
  unfold chainS chainN
  simp only [Int.toNat_natCast]
  rw [Nat.gcd_comm (d * q) (n * p)]

theorem cmp_gt (x : Nat) (h : 1000000000 < x) : cmpV x 1000000000 = 1 := cmpV_gt h
theorem cmp_le (x : Nat) (h : ¬ 1000000000 < x) : ¬ (0 : Int) < cmpV x 1000000000 := by
  unfold cmpV
  rw [if_neg h]
  split <;> omega

set_option maxHeartbeats 8000000 in
theorem refFind_any (a : Option Addr) (len cap : Nat) (rs : List Rt) (base f t : ByteArray) (p : Int) (w W : World) (hC : RefC w a len cap rs) (hW : Below w.heap.size w W) :
    Calls Tryd.prog 9 #[.slice a len cap, .string base, .string f, .string t, .int .i64 p] W fun e w' => e = .returned (.tuple #[.int .i64 (refFind rs base f t p).1, .int .i64 (refFind rs base f t p).2.1, .int .i64 (refFind rs base f t p).2.2]) ∧ Below w.heap.size w w' := by
  obtain ⟨R, hR⟩ : ∃ R, refFind rs base f t p = R := ⟨_, rfl⟩
  rw [hR]
  have HR : Hid (refFind rs base f t p = R) := hR
  clear hR
  have HC : Hid (RefC w a len cap rs) := hC
  clear hC
  go_enter Tryd.func9, Tryd.ntmps9
  go_wp2_with fail
  refine (HC.out.rates W hW).mono ?_
  rintro e w1 ⟨rfl, B1⟩
  clear hW
  obtain ⟨c, hcR⟩ : ∃ c, ratesS rs = c := ⟨_, rfl⟩
  rw [hcR]
  have HcR : Hid (ratesS rs = c) := hcR
  clear hcR
  by_cases h0 : c = 0
  case neg =>
    have er : R = (0, 0, c) := by rw [← HR.out]; unfold refFind; rw [HcR.out, if_pos h0]
    have h0' : (c != 0) = true := by simp [h0]
    subst er
    clear HC HR HcR
    go_wp2
    go_ret3
    exact ⟨rfl, B1⟩
  case pos =>
  have ER : Hid (R = if isCur base = false ∨ isCur f = false ∨ isCur t = false then (0, 0, 2)
    else if upTo p 120 = false then (0, 0, 1)
    else if f = t then (1, 1, 0)
    else match dirS rs f t p with
      | some v => (v.1, v.2, 0)
      | none => if f = base ∨ t = base then (0, 0, 6) else match dirS rs f base p, dirS rs base t p with
        | some v, some u => chainS v.1.toNat v.2.toNat u.1.toNat u.2.toNat
        | _, _ => (0, 0, 6)) := by
    unfold Hid; rw [← HR.out]; unfold refFind; rw [HcR.out, if_neg (by rw [h0]; simp)]; rfl
  clear HR
  subst h0
  have H0 : Hid (ratesS rs = 0) := HcR.out
  clear HcR
  go_wp2_with fail
  refine (refCur_any base w1).mono ?_
  rintro e w' ⟨rfl, hw⟩
  rw [hw]; clear hw w'
  go_wp2_with fail
  refine (refCur_any f w1).mono ?_
  rintro e w' ⟨rfl, hw⟩
  rw [hw]; clear hw w'
  go_wp2_with fail
  refine (refCur_any t w1).mono ?_
  rintro e w' ⟨rfl, hw⟩
  rw [hw]; clear hw w'
  cases q1 : isCur base
  · have er : R = (0, 0, 2) := by rw [ER.out]; simp [q1]
    subst er
    go_wp2
    go_ret3
    exact ⟨rfl, B1⟩
  cases q2 : isCur f
  · have er : R = (0, 0, 2) := by rw [ER.out]; simp [q2]
    subst er
    go_wp2
    go_ret3
    exact ⟨rfl, B1⟩
  cases q3 : isCur t
  · have er : R = (0, 0, 2) := by rw [ER.out]; simp [q3]
    subst er
    go_wp2
    go_ret3
    exact ⟨rfl, B1⟩
  go_wp2_with fail
  refine (period_any p w1).mono ?_
  rintro e w' ⟨rfl, hw⟩
  rw [hw]; clear hw w'
  cases q4 : upTo p 120
  · have er : R = (0, 0, 1) := by rw [ER.out]; simp [q1, q2, q3, q4]
    subst er
    go_wp2
    go_ret3
    exact ⟨rfl, B1⟩
  by_cases q5 : f = t
  · have er : R = (1, 1, 0) := by rw [ER.out]; simp [q1, q3, q4, q5]
    subst er
    subst q5
    go_wp2
    go_ret3
    exact ⟨rfl, B1⟩
  have q5' := texts_ne q5
  have ER2 : Hid (R = match dirS rs f t p with
      | some v => (v.1, v.2, 0)
      | none => if f = base ∨ t = base then (0, 0, 6) else match dirS rs f base p, dirS rs base t p with
        | some v, some u => chainS v.1.toNat v.2.toNat u.1.toNat u.2.toNat
        | _, _ => (0, 0, 6)) := by
    unfold Hid
    rw [ER.out, if_neg (by rw [q1, q2, q3]; simp), if_neg (by rw [q4]; simp), if_neg q5]
  clear ER
  have Hq : Hid (isCur base = true ∧ isCur f = true ∧ isCur t = true ∧ upTo p 120 = true ∧ f ≠ t) := ⟨q1, q2, q3, q4, q5⟩
  clear q1 q2 q3 q4
  go_wp2_with fail
  refine (HC.out.dir H0.out f t p w1 B1).mono ?_
  rintro e w2 ⟨rfl, B2⟩
  clear B1
  cases d1 : dirS rs f t p with
  | some v =>
    have er : R = (v.1, v.2, 0) := by rw [ER2.out, d1]
    obtain ⟨v1, v2⟩ := v
    subst er
    simp only [dirV]
    go_wp2
    go_ret3
    exact ⟨rfl, B2⟩
  | none =>
  simp only [dirV]
  have ER3 : Hid (R = if f = base ∨ t = base then (0, 0, 6) else match dirS rs f base p, dirS rs base t p with
        | some v, some u => chainS v.1.toNat v.2.toNat u.1.toNat u.2.toNat
        | _, _ => (0, 0, 6)) := by
    unfold Hid; rw [ER2.out, d1]
  clear ER2
  by_cases q6 : f = base
  · have er : R = (0, 0, 6) := by rw [ER3.out, if_pos (.inl q6)]
    subst er
    subst q6
    go_wp2
    go_ret3
    exact ⟨rfl, B2⟩
  have q6' := texts_ne q6
  by_cases q7 : t = base
  · have er : R = (0, 0, 6) := by rw [ER3.out, if_pos (.inr q7)]
    subst er
    subst q7
    go_wp2
    go_ret3
    exact ⟨rfl, B2⟩
  have q7' := texts_ne q7
  have ER4 : Hid (R = match dirS rs f base p, dirS rs base t p with
        | some v, some u => chainS v.1.toNat v.2.toNat u.1.toNat u.2.toNat
        | _, _ => (0, 0, 6)) := by
    unfold Hid; rw [ER3.out, if_neg (by simp [q6, q7])]
  clear ER3
  have Hq2 : Hid (f ≠ base ∧ base ≠ t) := ⟨q6, fun e => q7 e.symm⟩
  go_wp2_with fail
  refine (HC.out.dir H0.out f base p w2 B2).mono ?_
  rintro e w3 ⟨rfl, B3⟩
  clear B2
  cases d2 : dirS rs f base p with
  | none =>
    have er : R = (0, 0, 6) := by rw [ER4.out, d2]
    subst er
    simp only [dirV]
    go_wp2_with fail
    refine (HC.out.dir H0.out base t p w3 B3).mono ?_
    rintro e w4 ⟨rfl, B4⟩
    cases d3 : dirS rs base t p with
    | none =>
      simp only [dirV]
      go_wp2
      go_ret3
      exact ⟨rfl, B4⟩
    | some u =>
      obtain ⟨u1, u2⟩ := u
      simp only [dirV]
      go_wp2
      go_ret3
      exact ⟨rfl, B4⟩
  | some v =>
  obtain ⟨n, d⟩ := v
  have bv := dirS_range H0.out Hq.out.2.1 Hq.out.1 Hq2.out.1 Hq.out.2.2.2.1 d2
  simp only at bv
  simp only [dirV]
  go_wp2_with fail
  refine (HC.out.dir H0.out base t p w3 B3).mono ?_
  rintro e w4 ⟨rfl, B4⟩
  clear B3 HC
  cases d3 : dirS rs base t p with
  | none =>
    have er : R = (0, 0, 6) := by rw [ER4.out, d2, d3]
    subst er
    simp only [dirV]
    go_wp2
    go_ret3
    exact ⟨rfl, B4⟩
  | some u =>
  obtain ⟨p2, q⟩ := u
  have bu := dirS_range H0.out Hq.out.1 Hq.out.2.2.1 Hq2.out.2 Hq.out.2.2.2.1 d3
  simp only at bu
  simp only [dirV]
  have ER5 : Hid (R = chainS n.toNat d.toNat p2.toNat q.toNat) := by unfold Hid; rw [ER4.out, d2, d3]
  clear ER4 Hq Hq2 H0 q5 q6 q7
  obtain ⟨N, M, g, eN, eM, eg, hN, hM, hg, eC⟩ := chain_walk n d p2 q w bv.1 bv.2 bu.1 bu.2
  have E6 : Hid (R = if 1000000000 < N / g ∨ 1000000000 < M / g then (0, 0, 10) else (((N / g : Nat) : Int), ((M / g : Nat) : Int), 0)) := by unfold Hid; rw [ER5.out, eC]
  clear ER5 eC d1 d2 d3
  have sz4 : w.heap.size ≤ w4.heap.size := B4.size
  have HB4 : Hid (Below w.heap.size w w4) := B4
  clear B4 q5' q6' q7'
  have fn : Few n := by unfold Few; omega
  have fd : Few d := by unfold Few; omega
  have fp : Few p2 := by unfold Few; omega
  have fq : Few q := by unfold Few; omega
  have mN : Mid63 (N : Int) := by unfold Mid63; omega
  have mM : Mid63 (M : Int) := by unfold Mid63; omega
  have mg : Mid63 (g : Int) := by unfold Mid63; omega
  have g0 : (0 : Int) < g := by omega
  have F : Hid (Few n ∧ Few d ∧ Few p2 ∧ Few q ∧ Mid63 (N : Int) ∧ Mid63 (M : Int) ∧ Mid63 (g : Int) ∧ (0 : Int) < g ∧ N < 9223372036854775808 ∧ M < 9223372036854775808 ∧ 0 < N ∧ 0 < M) := ⟨fn, fd, fp, fq, mN, mM, mg, g0, by omega, by omega, by omega, by omega⟩
  clear fn fd fp fq mN mM mg g0
  have EN : Hid (n * p2 = (N : Int)) := eN
  have EM : Hid (d * q = (M : Int)) := eM
  have EG : Hid (Nat.gcd N M = g) := eg
  clear eN eM eg
  go_wp2_with fail
  refine (big_any n w4 (by omega) (by omega)).mono ?_
  rintro e w5 ⟨rfl, b5, g5⟩
  have l5 := b5.lt
  have H5 : Hid (BigIs w5 w4.heap.size n ∧ Below w.heap.size w w5) := ⟨b5, below_g HB4.out g5 sz4 (by simp)⟩
  clear b5 g5
  go_wp2_with fail
  refine (big_any p2 w5 (by omega) (by omega)).mono ?_
  rintro e w6 ⟨rfl, b6, g6⟩
  have H6 : Hid (BigIs w6 w5.heap.size p2 ∧ BigIs w6 w4.heap.size n ∧ Below w.heap.size w w6) := ⟨b6, H5.out.1.growBy g6, below_g H5.out.2 g6 (by omega) (by simp)⟩
  have l6 := b6.lt
  clear b6 g6 H5
  go_wp2_with fail
  refine (mul_big w4.heap.size w4.heap.size w5.heap.size n n p2 w6 H6.out.2.1 H6.out.2.1 H6.out.1 F.out.1 F.out.2.2.1).mono ?_
  rintro e w7 ⟨rfl, h7⟩
  have H7 : Hid (BigIs w7 w4.heap.size N ∧ Below w.heap.size w w7) := by
    have := h7.out.1
    rw [EN.out] at this
    exact ⟨this, below_g H6.out.2.2 h7.out.2 (by omega) (fun k e => by cases e; exact sz4)⟩
  have l7 : w4.heap.size < w7.heap.size := H7.out.1.lt
  clear h7 H6 EN l5 l6
  go_wp2_with fail
  refine (big_any d w7 (by omega) (by omega)).mono ?_
  rintro e w8 ⟨rfl, b8, g8⟩
  have H8 : Hid (BigIs w8 w7.heap.size d ∧ BigIs w8 w4.heap.size N ∧ Below w.heap.size w w8) := ⟨b8, H7.out.1.growBy g8, below_g H7.out.2 g8 (by omega) (by simp)⟩
  have l8 := b8.lt
  clear b8 g8 H7
  go_wp2_with fail
  refine (big_any q w8 (by omega) (by omega)).mono ?_
  rintro e w9 ⟨rfl, b9, g9⟩
  have H9 : Hid (BigIs w9 w8.heap.size q ∧ BigIs w9 w7.heap.size d ∧ BigIs w9 w4.heap.size N ∧ Below w.heap.size w w9) := ⟨b9, H8.out.1.growBy g9, H8.out.2.1.growBy g9, below_g H8.out.2.2 g9 (by omega) (by simp)⟩
  have l9 := b9.lt
  clear b9 g9 H8
  go_wp2_with fail
  refine (mul_big w7.heap.size w7.heap.size w8.heap.size d d q w9 H9.out.2.1 H9.out.2.1 H9.out.1 F.out.2.1 F.out.2.2.2.1).mono ?_
  rintro e w10 ⟨rfl, h10⟩
  have H10 : Hid (BigIs w10 w7.heap.size M ∧ BigIs w10 w4.heap.size N ∧ Below w.heap.size w w10) := by
    have := h10.out.1
    rw [EM.out] at this
    exact ⟨this, H9.out.2.2.1.kept (by omega) H9.out.2.1 h10.out.2, below_g H9.out.2.2.2 h10.out.2 (by omega) (fun k e => by cases e; omega)⟩
  have l10 : w7.heap.size < w10.heap.size := H10.out.1.lt
  clear h10 H9 EM l8 l9
  have S11 : Hid (Calls Tryd.prog 21 #[.pointer (some ⟨w10.heap.size, 0, none⟩), .pointer none, .pointer none, .pointer (some ⟨w4.heap.size, 0, none⟩), .pointer (some ⟨w7.heap.size, 0, none⟩)] (w10.alloc (.cells #[.bool false, .slice none 0 0] 55)) fun e w' => e = .returned (.pointer (some ⟨w10.heap.size, 0, none⟩)) ∧ Hid (BigIs w' w10.heap.size g ∧ w10.grownBy w' none)) := by
    have ga := World.grownBy_alloc w10 (.cells #[.bool false, .slice none 0 0] 55) none
    have fo := F.out
    refine (gcd_big w10.heap.size w4.heap.size w7.heap.size N M 0 _ (bigis_new w10) (H10.out.2.1.growBy ga) (H10.out.1.growBy ga) fo.2.2.2.2.2.2.2.2.2.2.1 fo.2.2.2.2.2.2.2.2.2.2.2 fo.2.2.2.2.2.2.2.2.1 fo.2.2.2.2.2.2.2.2.2.1).mono ?_
    rintro e w' ⟨rfl, hR⟩
    have := hR.out.1
    rw [EG.out] at this
    exact ⟨rfl, this, gnew hR.out.2⟩
  go_wp2_with fail
  refine S11.out.mono ?_
  rintro e w11 ⟨rfl, h11⟩
  have H11 : Hid (BigIs w11 w10.heap.size g ∧ BigIs w11 w4.heap.size N ∧ BigIs w11 w7.heap.size M ∧ Below w.heap.size w w11) := ⟨h11.out.1, H10.out.2.1.growBy h11.out.2, H10.out.1.growBy h11.out.2, below_g H10.out.2.2 h11.out.2 (by omega) (by simp)⟩
  have l11 : w10.heap.size < w11.heap.size := H11.out.1.lt
  clear h11 H10 S11 EG
  go_wp2_with fail
  refine (quo_big w4.heap.size w4.heap.size w10.heap.size N N g w11 H11.out.2.1 H11.out.2.1 H11.out.1 F.out.2.2.2.2.1 F.out.2.2.2.2.2.2.1 F.out.2.2.2.2.2.2.2.1).mono ?_
  rintro e w12 ⟨rfl, h12⟩
  have H12 : Hid (BigIs w12 w4.heap.size ((N : Int) / g) ∧ BigIs w12 w10.heap.size g ∧ BigIs w12 w7.heap.size M ∧ Below w.heap.size w w12) := by
    obtain ⟨a1, a2, a3⟩ := h12.out
    exact ⟨a1, a3 _ _ (by omega) H11.out.1, a3 _ _ (by omega) H11.out.2.2.1, below_g H11.out.2.2.2 a2 (by omega) (fun k e => by cases e; exact sz4)⟩
  have l12 : w10.heap.size < w12.heap.size := H12.out.2.1.lt
  clear h12 H11
  go_wp2_with fail
  refine (quo_big w7.heap.size w7.heap.size w10.heap.size M M g w12 H12.out.2.2.1 H12.out.2.2.1 H12.out.2.1 F.out.2.2.2.2.2.1 F.out.2.2.2.2.2.2.1 F.out.2.2.2.2.2.2.2.1).mono ?_
  rintro e w13 ⟨rfl, h13⟩
  obtain ⟨x, hx⟩ : ∃ x, N / g = x := ⟨_, rfl⟩
  obtain ⟨y, hy⟩ : ∃ y, M / g = y := ⟨_, rfl⟩
  have H13 : Hid (BigIs w13 w4.heap.size x ∧ BigIs w13 w7.heap.size y ∧ Below w.heap.size w w13) := by
    obtain ⟨a1, a2, a3⟩ := h13.out
    have e1 : ((N : Int) / g) = (x : Int) := by rw [← hx]; rfl
    have e2 : ((M : Int) / g) = (y : Int) := by rw [← hy]; rfl
    have z1 := a3 _ _ (show w4.heap.size ≠ w7.heap.size by omega) H12.out.1
    rw [e1] at z1
    rw [e2] at a1
    exact ⟨z1, a1, below_g H12.out.2.2.2 a2 (by omega) (fun k e => by cases e; omega)⟩
  have l13 : w7.heap.size < w13.heap.size := H13.out.2.1.lt
  have mx : Mid63 (x : Int) := by
    have : x ≤ N := by rw [← hx]; exact Nat.div_le_self _ _
    unfold Mid63; omega
  have my : Mid63 (y : Int) := by
    have : y ≤ M := by rw [← hy]; exact Nat.div_le_self _ _
    unfold Mid63; omega
  rw [hx, hy] at E6
  have MX : Hid (Mid63 (x : Int) ∧ Mid63 (y : Int)) := ⟨mx, my⟩
  clear h13 H12 mx my hx hy
  go_wp2_with fail
  refine (big_any 1000000000 w13 (by omega) (by omega)).mono ?_
  rintro e w14 ⟨rfl, b14, g14⟩
  have H14 : Hid (BigIs w14 w13.heap.size 1000000000 ∧ BigIs w14 w4.heap.size x ∧ BigIs w14 w7.heap.size y ∧ Below w.heap.size w w14) := ⟨b14, H13.out.1.growBy g14, H13.out.2.1.growBy g14, below_g H13.out.2.2 g14 (by omega) (by simp)⟩
  clear b14 g14 H13
  go_wp2_with fail
  refine (cmp_big w4.heap.size w13.heap.size x 1000000000 w14 H14.out.2.1 H14.out.1 MX.out.1 (by unfold Mid63; omega)).mono ?_
  rintro e w15 ⟨rfl, k1, hw⟩
  rw [hw]; clear hw w15
  have ec : ((x : Int).toNat) = x := Int.toNat_natCast x
  have ec2 : (1000000000 : Int).toNat = 1000000000 := rfl
  rw [ec, ec2]
  have D14 : ∀ k, Below w.heap.size w (w14.drewN k) := fun k => below_dr H14.out.2.2.2 k
  by_cases k2 : 1000000000 < x
  · have er : R = (0, 0, 10) := by rw [E6.out, if_pos (.inl k2)]
    subst er
    rw [cmp_gt x k2]
    have HD : Hid (Below w.heap.size w (w14.drewN k1)) := D14 k1
    clear D14 H14 F MX
    go_wp2
    go_ret3
    exact ⟨rfl, HD.out⟩
  have c1 := cmp_le x k2
  generalize cmpV x 1000000000 = c at *
  have gr : ∀ k, w14.grownBy (w14.drewN k) none := fun k => gdrewN (grefl _ _) k
  go_wp2_with fail
  refine (cmp_big w7.heap.size w13.heap.size y 1000000000 (w14.drewN k1) (H14.out.2.2.1.growBy (gr k1)) (H14.out.1.growBy (gr k1)) MX.out.2 (by unfold Mid63; omega)).mono ?_
  rintro e w15 ⟨rfl, k3, hw⟩
  rw [drew2] at hw
  rw [hw]; clear hw w15
  have ec3 : ((y : Int).toNat) = y := Int.toNat_natCast y
  rw [ec3, ec2]
  by_cases k4 : 1000000000 < y
  · have er : R = (0, 0, 10) := by rw [E6.out, if_pos (.inr k4)]
    subst er
    rw [cmp_gt y k4]
    have HD : Hid (Below w.heap.size w (w14.drewN (k1 + k3))) := D14 _
    clear D14 H14 F MX gr
    go_wp2
    go_ret3
    exact ⟨rfl, HD.out⟩
  have c2 := cmp_le y k4
  generalize cmpV y 1000000000 = c' at *
  have er : R = ((x : Int), (y : Int), 0) := by rw [E6.out, if_neg (by omega)]
  subst er
  have HD : Hid (Below w.heap.size w (w14.drewN (k1 + k3)) ∧ BigIs (w14.drewN (k1 + k3)) w4.heap.size x ∧ BigIs (w14.drewN (k1 + k3)) w7.heap.size y) := ⟨D14 _, H14.out.2.1.growBy (gr _), H14.out.2.2.1.growBy (gr _)⟩
  clear D14 H14 F gr E6
  go_wp2_with fail
  refine (int64_big w4.heap.size x _ HD.out.2.1 MX.out.1).mono ?_
  rintro e w' ⟨rfl, hw⟩
  rw [hw]; clear hw w'
  go_wp2_with fail
  refine (int64_big w7.heap.size y _ HD.out.2.2 MX.out.2).mono ?_
  rintro e w' ⟨rfl, hw⟩
  rw [hw]; clear hw w'
  have HF : Hid (Below w.heap.size w (w14.drewN (k1 + k3))) := HD.out.1
  clear HD MX
  go_wp2
  go_ret3
  exact ⟨rfl, HF.out⟩

/-- What dayref1.Convert hands back. -/
def rconvV (R : Int × Int × Int) (m : Int) : Int := if R.2.2 = 0 then rV (refQ m R.2.1 R.1) else 0
def rconvE (R : Int × Int × Int) (m : Int) : Int := if R.2.2 = 0 then rE (refQ m R.2.1 R.1) else R.2.2

theorem refConvert_any (a : Option Addr) (len cap : Nat) (rs : List Rt) (base f t : ByteArray) (p m : Int) (w W : World) (hC : RefC w a len cap rs) (hW : Below w.heap.size w W) (hm : -9223372036854775808 ≤ m) (hm2 : m ≤ 9223372036854775807) :
    Calls Tryd.prog 11 #[.slice a len cap, .string base, .string f, .string t, .int .i64 p, .int .i64 m] W fun e w' => e = .returned (.tuple #[.int .i64 (rconvV (refFind rs base f t p) m), .int .i64 (rconvE (refFind rs base f t p) m)]) ∧ Below w.heap.size w w' := by
  have hf := refFind_any a len cap rs base f t p w W hC hW
  have hr : (refFind rs base f t p).2.2 = 0 → (1 ≤ (refFind rs base f t p).1 ∧ (refFind rs base f t p).1 ≤ 1000000000) ∧ 1 ≤ (refFind rs base f t p).2.1 ∧ (refFind rs base f t p).2.1 ≤ 1000000000 := by
    rw [refFind_eq]
    exact findS_range (tabS_good rs).1
  generalize refFind rs base f t p = R at *
  have Hf : Hid (Calls Tryd.prog 9 #[.slice a len cap, .string base, .string f, .string t, .int .i64 p] W fun e w' => e = .returned (.tuple #[.int .i64 R.1, .int .i64 R.2.1, .int .i64 R.2.2]) ∧ Below w.heap.size w w') := hf
  clear hf hC hW
  obtain ⟨n, d, c⟩ := R
  by_cases he : c = 0
  · subst he
    have e1 : Hid (rconvV (n, d, 0) m = rV (refQ m d n) ∧ rconvE (n, d, 0) m = rE (refQ m d n)) := ⟨rfl, rfl⟩
    simp only [forall_const] at hr
    go_enter Tryd.func11, Tryd.ntmps11
    go_wp2_with fail
    refine Hf.out.mono ?_
    rintro e w1 ⟨rfl, B1⟩
    go_wp2_with fail
    refine (ref_in m d n w1 hm hm2 (by omega) (by omega) (by omega) (by omega)).mono ?_
    rintro e w2 ⟨rfl, h2⟩
    have B2 : Hid (Below w.heap.size w w2) := below_g B1 h2.out B1.size (by simp)
    rw [← e1.out.1, ← e1.out.2]
    clear h2 B1
    go_wp2
    go_ret2
    exact ⟨rfl, B2.out⟩
  · have e1 : Hid (rconvV (n, d, c) m = 0 ∧ rconvE (n, d, c) m = c) := ⟨if_neg he, if_neg he⟩
    have he' : (c != 0) = true := by simp [he]
    clear hr
    go_enter Tryd.func11, Tryd.ntmps11
    go_wp2_with fail
    refine Hf.out.mono ?_
    rintro e w1 ⟨rfl, B1⟩
    go_wp2
    go_ret2
    refine ⟨?_, B1⟩
    rw [e1.out.1, e1.out.2]; rfl
end Go.Proofs.YtoggclbhjoodoaaDoor
