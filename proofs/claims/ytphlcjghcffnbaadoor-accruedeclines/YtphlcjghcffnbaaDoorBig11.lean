/-
  The contracts of quarterdaybig's bit, TrailingZeroBits and IsInt64, and of dayref1's Small: does a number fit into 64 bits?
-/
import Derived.Test.YtphlcjghcffnbaaDoorBig10
namespace Go.Proofs.YtphlcjghcffnbaaDoor
set_option linter.unusedVariables false
open Go.RowKit Big

/-- A bit of a number is a bit of one of its words. -/
theorem word_bit {l : List Nat} (ho : Ok l) (k j : Nat) (hj : j < 32) (hk : k < l.length) : val l / 2 ^ (32 * k + j) % 2 = l.getD k 0 / 2 ^ j % 2 := by
  have e : val l = val (l.take k) + 4294967296 ^ k * (l.getD k 0 + 4294967296 * val (l.drop (k + 1))) := by
    have h1 := val_append (l.take k) (l.drop k)
    rw [List.take_append_drop, List.length_take, Nat.min_eq_left (Nat.le_of_lt hk)] at h1
    have h2 : l.drop k = l.getD k 0 :: l.drop (k + 1) := by rw [List.drop_eq_getElem_cons hk]; simp [hk]
    rw [h1, h2]; rfl
  have hlt := val_lt (ok_take ho k)
  rw [List.length_take, Nat.min_eq_left (Nat.le_of_lt hk)] at hlt
  have hB : 0 < 4294967296 ^ k := Nat.pow_pos (by omega)
  rw [Nat.pow_add, ← pow32, ← Nat.div_div_eq_div_mul, e, Nat.add_mul_div_left _ _ hB, Nat.div_eq_of_lt hlt, Nat.zero_add]
  have e2 : 4294967296 = 2 ^ j * (2 * 2 ^ (31 - j)) := by
    rw [show 2 * 2 ^ (31 - j) = 2 ^ (32 - j) by rw [← Nat.pow_succ']; congr 1; omega, ← Nat.pow_add, show j + (32 - j) = 32 by omega]
  have hJ := Nat.two_pow_pos j
  rw [show l.getD k 0 + 4294967296 * val (l.drop (k + 1)) = l.getD k 0 + 2 ^ j * (2 * (2 ^ (31 - j) * val (l.drop (k + 1)))) by
    rw [← Nat.mul_assoc 2, ← Nat.mul_assoc (2 ^ j), ← e2], Nat.add_mul_div_left _ _ hJ, Nat.add_mul_mod_self_left]

/-- Bit i of a number. -/
def bitOf (n i : Nat) : Nat := n / 2 ^ i % 2

theorem bit_any (v : Value) (l : List Nat) (k j : Nat) (w : World) (h : Wd w v l) (hj : j < 32) (hk : k < l.length) (hl : l.length < 35184372088832) :
    Calls Tryd.prog 29 #[v, .int .i64 ((32 * k + j : Nat) : Int)] w fun e w' => e = .returned (.int .u64 (bitOf (val l) (32 * k + j))) ∧ w' = w := by
  have ho := h.ok
  rcases h.at_ with ⟨h0, a, cap, hv⟩ | ⟨h0, b, off, cap, hv, hb, hcap, hc⟩
  · subst h0; simp at hk
  · subst hv
    have hck := hc k hk
    have hW : bitOf (val l) (32 * k + j) = l.getD k 0 / 2 ^ j % 2 := word_bit ho k j hj hk
    have hx := ho k hk
    generalize l.getD k 0 = x at *
    obtain ⟨i, hi⟩ : ∃ i, i = 32 * k + j := ⟨_, rfl⟩
    rw [← hi] at hW ⊢
    have e1 : (i : Int) / 32 = k := by omega
    have e2 : (i : Int) % 32 = j := by omega
    have e3 : (x : Int) / 2 ^ j = ((x / 2 ^ j : Nat) : Int) := by rw [Int.natCast_ediv, Int.natCast_pow]; rfl
    have hy : x / 2 ^ j ≤ x := Nat.div_le_self _ _
    generalize hyg : x / 2 ^ j = y at *
    have e4 : bits .and .u64 (y : Int) 1 = ((y % 2 : Nat) : Int) := by
      have := bits_and_u64_nat y 1 (by omega) (by omega)
      rw [Nat.and_one_is_mod] at this
      exact this
    have hr : y % 2 < 2 := Nat.mod_lt _ (by omega)
    generalize y % 2 = r at *
    have HW : Hid (bitOf (val l) i = r) := hW
    have i1 : (i : Int) < 2000000000000000 := by omega
    have i2 : ¬ ((i : Int) < 0) := by omega
    have i3 : (k : Int) < l.length := by omega
    have i4 : (j : Int) < 32 := by omega
    have i5 : (y : Int) < 4294967296 := by omega
    have i6 : (x : Int) < 4294967296 := by omega
    have i7 : ¬ ((l.length : Int) ≤ k) := by omega
    clear h ho hc hW hi hyg
    go_enter Tryd.func29, Tryd.ntmps29
    go_wp2
    go_ret
    exact ⟨by rw [HW.out]; rfl, rfl⟩

theorem first_bit (n i : Nat) (h : ∀ k, k < i → bitOf n k = 0) : n % 2 ^ i = 0 := by
  induction i with
  | zero => simp [Nat.mod_one]
  | succ i ih =>
    have h1 := ih (fun k hk => h k (by omega))
    have h2 := h i (by omega)
    unfold bitOf at h2
    have hp := Nat.two_pow_pos i
    obtain ⟨q, hq⟩ := Nat.dvd_of_mod_eq_zero h1
    rw [hq, Nat.mul_div_cancel_left _ hp] at h2
    obtain ⟨t, ht⟩ := Nat.dvd_of_mod_eq_zero h2
    rw [hq, ht, Nat.pow_succ, ← Nat.mul_assoc]
    exact Nat.mul_mod_right _ _

/-- Of a number of just 64 bits. -/
theorem tz_facts (n i : Nat) (h1 : 9223372036854775808 ≤ n) (h2 : n < 18446744073709551616) (hz : ∀ k, k < i → bitOf n k = 0) (hi : bitOf n i = 1) : i ≤ 63 ∧ (i = 63 ↔ n = 9223372036854775808) := by
  have top : bitOf n 63 = 1 := by
    unfold bitOf
    have : n / 2 ^ 63 = 1 := by
      apply Nat.div_eq_of_lt_le <;> omega
    rw [this]
  have hle : i ≤ 63 := by
    apply Classical.byContradiction
    intro hn
    have := hz 63 (by omega)
    omega
  refine ⟨hle, ?_, ?_⟩
  · rintro rfl
    have := first_bit n 63 hz
    omega
  · rintro rfl
    apply Classical.byContradiction
    intro hn
    have h3 : i < 63 := by omega
    have e : (9223372036854775808 : Nat) = 2 ^ i * (2 * 2 ^ (62 - i)) := by
      rw [show 2 * 2 ^ (62 - i) = 2 ^ (63 - i) by rw [← Nat.pow_succ']; congr 1; omega, ← Nat.pow_add, show i + (63 - i) = 63 by omega]
    unfold bitOf at hi
    rw [e, Nat.mul_div_cancel_left _ (Nat.two_pow_pos i)] at hi
    omega
end Go.Proofs.YtphlcjghcffnbaaDoor
