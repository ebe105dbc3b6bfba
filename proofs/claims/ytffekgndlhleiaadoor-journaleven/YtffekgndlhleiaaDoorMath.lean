/-
  Plain arithmetic: the long division of two words by one, sums kept in two words, and the rounding of a part to the nearest whole number, a half to the even one. It names no program.
-/
namespace Go.Proofs.YtffekgndlhleiaaDoor.Math
set_option linter.unusedVariables false
/-- The invariant of one step of the long division: u < y, y = y1*b + y0. -/
structure DivSt (u u1 y1 y0 q r : Nat) : Prop where
  eq : u = q * y1 + r
  ge : (u * 4294967296 + u1) / (y1 * 4294967296 + y0) ≤ q

theorem div_start (u u1 y1 y0 : Nat) (h1 : 0 < y1) (hu1 : u1 < 4294967296) : DivSt u u1 y1 y0 (u / y1) (u % y1) := by
  refine ⟨?_, ?_⟩
  · have := Nat.div_add_mod u y1
    rw [Nat.mul_comm] at this; omega
  · have hy : 0 < y1 * 4294967296 + y0 := by omega
    rw [Nat.div_le_iff_le_mul_add_pred hy]
    have e := Nat.div_add_mod u y1
    have l := Nat.mod_lt u h1
    generalize u / y1 = q at *
    generalize u % y1 = r at *
    have e2 : (y1 * 4294967296 + y0) * q = y1 * q * 4294967296 + y0 * q := by
      rw [Nat.add_mul, Nat.mul_right_comm]
    rw [e2]
    generalize y1 * q = t at *
    generalize y0 * q = t0 at *
    omega

theorem quo_lt (u u1 y : Nat) (hu : u < y) (hu1 : u1 < 4294967296) : (u * 4294967296 + u1) / y < 4294967296 := by
  rw [Nat.div_lt_iff_lt_mul (by omega)]
  omega

/-- A round: the guess was too great, so one less is no less than the quotient. -/
theorem div_round (u u1 y1 y0 q r : Nat) (h : DivSt u u1 y1 y0 q r) (hu : u < y1 * 4294967296 + y0) (hu1 : u1 < 4294967296)
    (hc : 4294967296 ≤ q ∨ r * 4294967296 + u1 < q * y0) : 1 ≤ q ∧ DivSt u u1 y1 y0 (q - 1) (r + y1) := by
  have hq : (u * 4294967296 + u1) / (y1 * 4294967296 + y0) < q := by
    rcases hc with hc | hc
    · exact Nat.lt_of_lt_of_le (quo_lt u u1 _ hu hu1) hc
    · rw [Nat.div_lt_iff_lt_mul (by omega)]
      have e := h.eq
      have e2 : q * (y1 * 4294967296 + y0) = q * y1 * 4294967296 + q * y0 := by
        rw [Nat.mul_add, Nat.mul_assoc]
      rw [e2, e, Nat.add_mul, Nat.add_assoc]
      exact Nat.add_lt_add_left hc _
  have h1 : 1 ≤ q := Nat.lt_of_le_of_lt (Nat.zero_le _) hq
  refine ⟨h1, ?_, Nat.le_sub_one_of_lt hq⟩
  have e := h.eq
  obtain ⟨p, rfl⟩ : ∃ p, q = p + 1 := ⟨q - 1, by omega⟩
  simp only [Nat.add_sub_cancel]
  rw [Nat.add_mul] at e
  omega

theorem div_stop (u u1 y1 y0 q r : Nat) (h : DivSt u u1 y1 y0 q r) (hu : u < y1 * 4294967296 + y0)
    (hc : q * y0 ≤ r * 4294967296 + u1) : q = (u * 4294967296 + u1) / (y1 * 4294967296 + y0) := by
  refine Nat.le_antisymm ?_ h.ge
  rw [Nat.le_div_iff_mul_le (by omega)]
  have e := h.eq
  have e2 : q * (y1 * 4294967296 + y0) = q * y1 * 4294967296 + q * y0 := by
    rw [Nat.mul_add, Nat.mul_assoc]
  rw [e2]
  generalize q * y1 = t at *
  generalize q * y0 = t0 at *
  omega

theorem div_break (u u1 y1 y0 q r : Nat) (h : DivSt u u1 y1 y0 q r) (hu : u < y1 * 4294967296 + y0) (h0 : y0 < 4294967296)
    (hr : 4294967296 ≤ r) : q = (u * 4294967296 + u1) / (y1 * 4294967296 + y0) := by
  have hq : q < 4294967296 := by
    apply Classical.byContradiction
    intro hn
    have hn : 4294967296 ≤ q := by omega
    have e := h.eq
    have := Nat.mul_le_mul_right y1 hn
    generalize q * y1 = t at *
    omega
  refine div_stop u u1 y1 y0 q r h hu ?_
  have := Nat.mul_le_mul (Nat.le_of_lt hq) (Nat.le_of_lt h0)
  omega

theorem shift_split (lo P Q : Nat) (hPQ : P * Q = 18446744073709551616) : lo / Q * 18446744073709551616 + lo * P % 18446744073709551616 = lo * P := by
  have hP : 0 < P := by
    rcases Nat.eq_zero_or_pos P with h | h
    · rw [h, Nat.zero_mul] at hPQ; omega
    · exact h
  have e : lo * P / 18446744073709551616 = lo / Q := by
    rw [← hPQ, Nat.mul_comm P Q, Nat.mul_div_mul_right _ _ hP]
  have := Nat.div_add_mod (lo * P) 18446744073709551616
  rw [e] at this
  omega

theorem two_steps (U32 un1 un0 Y : Nat) (hY : 0 < Y) :
    (U32 * 18446744073709551616 + (un1 * 4294967296 + un0)) / Y = (U32 * 4294967296 + un1) / Y * 4294967296 + ((U32 * 4294967296 + un1) % Y * 4294967296 + un0) / Y ∧
    (U32 * 18446744073709551616 + (un1 * 4294967296 + un0)) % Y = ((U32 * 4294967296 + un1) % Y * 4294967296 + un0) % Y := by
  have e : U32 * 18446744073709551616 + (un1 * 4294967296 + un0) = ((U32 * 4294967296 + un1) % Y * 4294967296 + un0) + Y * ((U32 * 4294967296 + un1) / Y * 4294967296) := by
    have h := Nat.div_add_mod (U32 * 4294967296 + un1) Y
    rw [← Nat.mul_assoc]
    generalize Y * ((U32 * 4294967296 + un1) / Y) = t at *
    generalize (U32 * 4294967296 + un1) % Y = r at *
    omega
  rw [e, Nat.add_mul_div_left _ _ hY, Nat.add_mul_mod_self_left]
  exact ⟨Nat.add_comm _ _, rfl⟩

theorem div64_math (hi lo y P Q : Nat) (hPQ : P * Q = 18446744073709551616) (hy : 0 < y) :
    let U := hi * P + lo / Q
    let V := lo * P % 18446744073709551616
    let Y := y * P
    (U * 4294967296 + V / 4294967296) / Y * 4294967296 + ((U * 4294967296 + V / 4294967296) % Y * 4294967296 + V % 4294967296) / Y = (hi * 18446744073709551616 + lo) / y ∧
    ((U * 4294967296 + V / 4294967296) % Y * 4294967296 + V % 4294967296) % Y / P = (hi * 18446744073709551616 + lo) % y := by
  intro U V Y
  have hP : 0 < P := by
    rcases Nat.eq_zero_or_pos P with h | h
    · rw [h, Nat.zero_mul] at hPQ; omega
    · exact h
  have hY : 0 < Y := Nat.mul_pos hy hP
  have h2 := two_steps U (V / 4294967296) (V % 4294967296) Y hY
  have e : U * 18446744073709551616 + (V / 4294967296 * 4294967296 + V % 4294967296) = (hi * 18446744073709551616 + lo) * P := by
    have h1 := shift_split lo P Q hPQ
    have h3 : V / 4294967296 * 4294967296 + V % 4294967296 = V := Nat.div_add_mod' _ _
    rw [h3]
    show (hi * P + lo / Q) * 18446744073709551616 + lo * P % 18446744073709551616 = _
    rw [Nat.add_mul, Nat.add_mul, Nat.add_assoc, h1, Nat.mul_right_comm]
  rw [e] at h2
  rw [← h2.1, ← h2.2]
  refine ⟨Nat.mul_div_mul_right _ _ hP, ?_⟩
  rw [Nat.mul_mod_mul_right, Nat.mul_div_cancel _ hP]
/-- What 64 bits with a sign hold. -/
def I64 (x : Int) : Prop := -9223372036854775808 ≤ x ∧ x ≤ 9223372036854775807

/-- The two words of a sum. -/
def loW (s : Int) : Int := s % 18446744073709551616
def hiW (s : Int) : Int := s / 18446744073709551616 % 18446744073709551616
theorem loW_bd (s : Int) : 0 ≤ loW s ∧ loW s < 18446744073709551616 := by unfold loW; omega
theorem hiW_bd (s : Int) : 0 ≤ hiW s ∧ hiW s < 18446744073709551616 := by unfold hiW; omega
/-- a word of an int: itself, or 2^64 more. -/
theorem loW_add (s a : Int) : (loW s + loW a) % 18446744073709551616 = loW (s + a) := by unfold loW; omega
theorem hiW_add (s a : Int) (h : I64 a) : (hiW s + (loW (a / 9223372036854775808) + (loW s + loW a) / 18446744073709551616)) % 18446744073709551616 = hiW (s + a) := by
  unfold hiW loW; unfold I64 at h
  have key : (s + a) / 18446744073709551616 = s / 18446744073709551616 + a / 9223372036854775808 + (s % 18446744073709551616 + a % 18446744073709551616) / 18446744073709551616 := by
    by_cases h0 : a < 0
    · have e1 : a / 9223372036854775808 = -1 := by omega
      have e2 : a % 18446744073709551616 = a + 18446744073709551616 := by omega
      rw [e1, e2]; omega
    · have e1 : a / 9223372036854775808 = 0 := by omega
      have e2 : a % 18446744073709551616 = a := by omega
      rw [e1, e2]; omega
  rw [key]
  generalize (s % 18446744073709551616 + a % 18446744073709551616) / 18446744073709551616 = c
  generalize s / 18446744073709551616 = p
  generalize a / 9223372036854775808 = q
  omega
/-- The carry of two words. -/
def cW (s a : Int) : Int := (loW s + loW a) / 18446744073709551616
theorem cW_bd (s a : Int) : 0 ≤ cW s a ∧ cW s a ≤ 1 := by have := loW_bd s; have := loW_bd a; unfold cW; omega
theorem hiW_step (s a : Int) (h : I64 a) : (hiW s + (a / 9223372036854775808 % 18446744073709551616 + cW s a) % 18446744073709551616) % 18446744073709551616 = hiW (s + a) := by
  rw [← hiW_add s a h]
  unfold cW
  generalize (loW s + loW a) / 18446744073709551616 = c
  unfold loW
  generalize a / 9223372036854775808 = q
  generalize hiW s = p
  omega
theorem sum_fits (s : Int) (h : -170141183460469231731687303715884105728 ≤ s ∧ s < 170141183460469231731687303715884105728) (x : Int)
    (hx : x = if loW s < 9223372036854775808 then loW s else loW s - 18446744073709551616) :
    (hiW s = loW (x / 9223372036854775808) ↔ I64 s) ∧ (I64 s → x = s) := by
  unfold hiW loW at *; unfold I64
  split at hx <;> omega
/-- One more, where what was cut off is more than a half, or is it and the whole is odd. -/
def upOf (w r d : Int) : Int := if 2 * r > d ∨ (2 * r = d ∧ w % 2 = 1) then 1 else 0
/-- The size of a part, rounded. -/
def partOf (m n d : Int) : Int := m * n / d + upOf (m * n / d) (m * n % d) d
def absI (a : Int) : Int := if a < 0 then -a else a
def ratioOk (a n d : Int) : Prop := partOf (absI a) n d ≤ 9223372036854775807 + (if a < 0 then 1 else 0)
def ratioV (a n d : Int) : Int := if a < 0 then -(partOf (absI a) n d) else partOf (absI a) n d

theorem absI_nonneg (a : Int) : 0 ≤ absI a := by unfold absI; split <;> omega
theorem absI_neg (a : Int) : absI (-a) = absI a := by unfold absI; split <;> split <;> omega
theorem upOf_bd (w r d : Int) : 0 ≤ upOf w r d ∧ upOf w r d ≤ 1 := by unfold upOf; split <;> omega

theorem near (m n d : Int) (hd : 1 ≤ d) : let t := partOf m n d
    2 * (m * n - t * d) ≤ d ∧ -d ≤ 2 * (m * n - t * d) ∧ ((2 * (m * n - t * d) = d ∨ 2 * (m * n - t * d) = -d) → t % 2 = 0) := by
  intro t
  have e := Int.mul_ediv_add_emod (m * n) d
  have l0 := Int.emod_nonneg (m * n) (b := d) (by omega)
  have l1 := Int.emod_lt_of_pos (m * n) (b := d) (by omega)
  have ht : t = m * n / d + upOf (m * n / d) (m * n % d) d := rfl
  generalize m * n = p at *
  generalize p / d = w at *
  generalize p % d = r at *
  have hm : t * d = d * w + upOf w r d * d := by rw [ht, Int.add_mul, Int.mul_comm w d]
  rw [hm]
  clear_value t
  subst ht
  generalize d * w = dw at *
  unfold upOf
  split
  · rename_i h
    rw [Int.one_mul]
    omega
  · rename_i h
    rw [Int.zero_mul]
    omega

theorem part_all (m d : Int) (hd : 1 ≤ d) : partOf m d d = m := by
  have e1 : m * d / d = m := Int.mul_ediv_cancel m (by omega)
  have e2 : m * d % d = 0 := Int.mul_emod_left m d
  unfold partOf upOf
  rw [e1, e2, if_neg (by omega)]
  omega

theorem part_bd (m n d : Int) (h0 : 0 ≤ m) (h1 : m ≤ 1000000000) (h2 : 0 ≤ n) (h3 : n ≤ 1000000000) (hd : 1 ≤ d) : 0 ≤ partOf m n d ∧ partOf m n d ≤ 1000000000000000001 := by
  have a := Int.mul_nonneg h0 h2
  have b : m * n ≤ 1000000000 * 1000000000 := Int.mul_le_mul h1 h3 h2 (by omega)
  have c := Int.ediv_nonneg a (by omega : (0 : Int) ≤ d)
  have e : m * n / d ≤ m * n := Int.ediv_le_self _ a
  have u := upOf_bd (m * n / d) (m * n % d) d
  unfold partOf
  omega

theorem part_nonneg (m n d : Int) (h0 : 0 ≤ m) (h2 : 0 ≤ n) (hd : 1 ≤ d) : 0 ≤ partOf m n d := by
  have a := Int.mul_nonneg h0 h2
  have c := Int.ediv_nonneg a (by omega : (0 : Int) ≤ d)
  have u := upOf_bd (m * n / d) (m * n % d) d
  unfold partOf
  omega

/-- MoneyRounds' facts. -/
theorem rounds_facts (a n d : Int) (ha : -1000000000 ≤ a ∧ a ≤ 1000000000) (hn : 0 ≤ n ∧ n ≤ 1000000000) (hd : 1 ≤ d) :
    ratioOk a n d ∧ ratioOk (-a) n d ∧ ratioOk a d d ∧ ratioV (-a) n d = -ratioV a n d ∧ ratioV a d d = a ∧
    2 * (a * n - ratioV a n d * d) ≤ d ∧ -d ≤ 2 * (a * n - ratioV a n d * d) ∧ ((2 * (a * n - ratioV a n d * d) = d ∨ 2 * (a * n - ratioV a n d * d) = -d) → ratioV a n d % 2 = 0) := by
  have hm0 := absI_nonneg a
  have hm1 : absI a ≤ 1000000000 := by unfold absI; split <;> omega
  have b := part_bd (absI a) n d hm0 hm1 hn.1 hn.2 hd
  have p := part_all (absI a) d hd
  have nr := near (absI a) n d hd
  simp only at nr
  refine ⟨?_, ?_, ?_, ?_, ?_, ?_⟩
  · unfold ratioOk; split <;> omega
  · unfold ratioOk; rw [absI_neg]; split <;> omega
  · unfold ratioOk; rw [p]; split <;> omega
  · unfold ratioV; rw [absI_neg]
    by_cases h : a < 0
    · rw [if_pos h, if_neg (by omega)]; omega
    · rw [if_neg h]
      by_cases h' : -a < 0
      · rw [if_pos h']
      · have : a = 0 := by omega
        rw [if_neg h']
        subst this
        have : partOf (absI 0) n d = 0 := by
          unfold absI partOf upOf; rw [if_neg (by omega)]; simp; omega
        omega
  · unfold ratioV; rw [p]; unfold absI; split <;> omega
  · unfold ratioV
    have e : a * n = if a < 0 then -(absI a * n) else absI a * n := by
      unfold absI; split
      · rw [Int.neg_mul, Int.neg_neg]
      · rfl
    rw [e]
    generalize absI a * n = x at *
    generalize hpt : partOf (absI a) n d = t at *
    by_cases h : a < 0
    · simp only [if_pos h, Int.neg_mul]
      generalize t * d = y at *
      omega
    · simp only [if_neg h]
      generalize t * d = y at *
      omega
end Go.Proofs.YtffekgndlhleiaaDoor.Math
