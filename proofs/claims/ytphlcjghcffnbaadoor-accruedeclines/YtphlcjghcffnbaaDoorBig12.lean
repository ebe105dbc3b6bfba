/-
  The contracts of TrailingZeroBits and IsInt64 of quarterdaybig's Int, and of dayref1's Small.
-/
import Derived.Test.YtphlcjghcffnbaaDoorBig11
namespace Go.Proofs.YtphlcjghcffnbaaDoor
set_option linter.unusedVariables false
open Go.RowKit Big

theorem bit_i (v : Value) (l : List Nat) (i : Nat) (w : World) (h : Wd w v l) (hk : i / 32 < l.length) (hl : l.length < 35184372088832) :
    Calls Tryd.prog 29 #[v, .int .i64 (i : Int)] w fun e w' => e = .returned (.int .u64 (bitOf (val l) i)) ∧ w' = w := by
  have := bit_any v l (i / 32) (i % 32) w h (by omega) hk hl
  rw [show 32 * (i / 32) + i % 32 = i by omega] at this
  exact this

theorem top_bit (n : Nat) (h1 : 9223372036854775808 ≤ n) (h2 : n < 18446744073709551616) : bitOf n 63 = 1 := by
  unfold bitOf
  have : n / 2 ^ 63 = 1 := by
    apply Nat.div_eq_of_lt_le <;> omega
  rw [this]

theorem bit01 (n i : Nat) : bitOf n i = 0 ∨ bitOf n i = 1 := by unfold bitOf; omega

theorem len_two {l : List Nat} (ho : Ok l) (hn : Nrm l) (h2 : val l < 18446744073709551616) : l.length ≤ 2 := by
  rcases Nat.eq_zero_or_pos l.length with h0 | h0
  · omega
  · have h3 := val_ge hn h0
    apply Classical.byContradiction
    intro hc
    have : 4294967296 ^ 2 ≤ 4294967296 ^ (l.length - 1) := Nat.pow_le_pow_right (by omega) (by omega)
    omega
theorem len_two' {l : List Nat} (ho : Ok l) (h1 : 9223372036854775808 ≤ val l) : 2 ≤ l.length := by
  have h3 := val_lt ho
  apply Classical.byContradiction
  intro hc
  have : 4294967296 ^ l.length ≤ 4294967296 ^ 1 := Nat.pow_le_pow_right (by omega) (by omega)
  omega

set_option maxHeartbeats 1000000 in
theorem tzb_any (p : Nat) (neg : Bool) (v : Value) (l : List Nat) (w : World) (h : IsBig w p neg v l) (h1 : 9223372036854775808 ≤ val l) (h2 : val l < 18446744073709551616) :
    Calls Tryd.prog 47 #[.pointer (some ⟨p, 0, none⟩)] w fun e w' => (∃ i : Nat, e = .returned (.int .u64 i) ∧ i ≤ 63 ∧ (i = 63 ↔ val l = 9223372036854775808)) ∧ w' = w := by
  have c1 := blk_cell1 h.blk
  have l1 := len_two h.wd.ok h.nrm h2
  have l2 := len_two' h.wd.ok h1
  obtain ⟨a, cap, hv⟩ := h.wd.slice
  have hlen : l.length = 2 := by omega
  rw [hlen] at hv
  subst hv
  have H : Hid (Wd w (.slice a 2 cap) l) := h.wd
  have Hl : Hid (l.length = 2) := hlen
  have F : Hid (∀ i, (∀ k, k < i → bitOf (val l) k = 0) → bitOf (val l) i = 1 → i ≤ 63 ∧ (i = 63 ↔ val l = 9223372036854775808)) := fun i hz hi => tz_facts (val l) i h1 h2 hz hi
  have Top : Hid (bitOf (val l) 63 = 1) := top_bit _ h1 h2
  clear h h1 h2 l1 l2 hlen
  generalize hn : val l = n at *
  have Hn : Hid (val l = n) := hn
  clear hn
  go_enter Tryd.func47, Tryd.ntmps47
  go_wp2
  go_loop [3] (fun tn => ∃ i : Nat, (i : Int) ≤ 63 ∧ tn = .int .u64 i ∧ Hid (∀ k, k < i → bitOf n k = 0)) (fun tn => 64 - (intOf tn).toNat)
  case atStart => exact ⟨0, by omega, rfl, fun k hk => by omega⟩
  case round =>
    obtain ⟨i, hi, rfl, Hz⟩ := hrel
    go_wp2_with fail
    refine (bit_i _ l i w H.out (by have := Hl.out; omega) (by have := Hl.out; omega)).mono ?_
    rintro e w' ⟨rfl, hw⟩
    rw [hw, Hn.out]; clear hw w'
    rcases bit01 n i with hb | hb
    · rw [hb]
      have R : Hid (i + 1 ≤ 63 ∧ ∀ k, k < i + 1 → bitOf n k = 0) := by
        have hz : ∀ k, k < i + 1 → bitOf n k = 0 := fun k hk => by
          rcases Nat.lt_or_ge k i with h | h
          · exact Hz.out k h
          · rw [show k = i by omega]; exact hb
        refine ⟨?_, hz⟩
        apply Classical.byContradiction
        intro hc
        have hi63 : i = 63 := by omega
        subst hi63
        have := Top.out
        omega
      clear hb Hz F
      go_wp2
      go_round
      case rel => exact ⟨i + 1, by have := R.out.1; omega, by go_num, R.out.2⟩
      case measure => simp [intOf]; omega
    · rw [hb]
      have R : Hid (i ≤ 63 ∧ (i = 63 ↔ n = 9223372036854775808)) := F.out i Hz.out hb
      clear hb Hz F
      go_wp2
      go_ret
      exact ⟨⟨i, rfl, R.out.1, R.out.2⟩, rfl⟩

/-- Is it of 64 bits? -/
def Fits (x : Int) : Prop := -9223372036854775808 ≤ x ∧ x ≤ 9223372036854775807

set_option maxHeartbeats 1000000 in
theorem isInt64_any (p : Nat) (neg : Bool) (v : Value) (l : List Nat) (w : World) (h : IsBig w p neg v l) (hl : l.length < 35184372088832) :
    Calls Tryd.prog 31 #[.pointer (some ⟨p, 0, none⟩)] w fun e w' => (∃ b : Bool, e = .returned (.bool b) ∧ (b = true ↔ Fits (sg neg (val l)))) ∧ w' = w := by
  have c0 := blk_cell0 h.blk
  have c1 := blk_cell1 h.blk
  have H : Hid (IsBig w p neg v l) := h
  clear h
  generalize hn : val l = n at *
  have Hn : Hid (val l = n) := hn
  clear hn
  go_enter Tryd.func31, Tryd.ntmps31
  go_wp2_with fail
  refine (length_any v l w H.out.wd H.out.nrm hl).mono ?_
  rintro e w' ⟨⟨L, rfl, hB⟩, hw⟩
  rw [hw]; clear hw w'
  rw [Hn.out] at hB
  have HB : Hid (Bits n L) := hB
  clear hB
  rcases Nat.lt_trichotomy L 64 with hL | hL | hL
  · have R : Hid (Fits (sg neg n)) := by
      have hlt : n < 9223372036854775808 := by
        rcases HB.out with ⟨h, _⟩ | ⟨h1, _, h2⟩
        · omega
        · have : 2 ^ L ≤ 2 ^ 63 := Nat.pow_le_pow_right (by omega) (by omega)
          omega
      unfold Hid Fits sg; cases neg <;> simp <;> omega
    have t1 : (L : Int) < 64 := by omega
    clear HB
    go_wp2
    go_ret
    exact ⟨⟨true, rfl, fun _ => R.out, fun _ => rfl⟩, rfl⟩
  · subst hL
    have h12 : Hid (9223372036854775808 ≤ n ∧ n < 18446744073709551616) := by
      rcases HB.out with ⟨_, h⟩ | ⟨_, h1, h2⟩
      · omega
      · exact ⟨h1, h2⟩
    clear HB
    cases neg
    · have R : Hid (¬ Fits (sg false n)) := by
        have := h12.out
        unfold Hid Fits sg; simp; omega
      go_wp2
      go_ret
      exact ⟨⟨false, rfl, fun h => by simp at h, fun h => absurd h R.out⟩, rfl⟩
    · go_wp2_with fail
      refine (tzb_any p true v l w H.out (by rw [Hn.out]; exact h12.out.1) (by rw [Hn.out]; exact h12.out.2)).mono ?_
      rintro e w' ⟨⟨i, rfl, hi, hiff⟩, hw⟩
      rw [hw]; clear hw w'
      rw [Hn.out] at hiff
      have R : Hid (((i : Int) == 63) = true ↔ Fits (sg true n)) := by
        have := h12.out
        unfold Hid Fits sg
        simp
        omega
      clear hiff
      go_wp2
      go_ret
      exact ⟨⟨_, rfl, R.out⟩, rfl⟩
  · have R : Hid (¬ Fits (sg neg n)) := by
      have hge : 18446744073709551616 ≤ n := by
        rcases HB.out with ⟨_, h⟩ | ⟨h1, h2, _⟩
        · omega
        · have : 2 ^ 64 ≤ 2 ^ (L - 1) := Nat.pow_le_pow_right (by omega) (by omega)
          omega
      unfold Hid Fits sg; cases neg <;> simp <;> omega
    have t1 : ¬ ((L : Int) < 64) := by omega
    have t2 : ((L : Int) == 64) = false := by simp; omega
    clear HB
    go_wp2
    go_ret
    refine ⟨⟨false, ?_, fun h => by simp at h, fun h => absurd h R.out⟩, rfl⟩
    simp
    omega

theorem small_yes (p : Nat) (neg : Bool) (v : Value) (l : List Nat) (w : World) (h : IsBig w p neg v l) (hl : l.length < 35184372088832) (hf : Fits (sg neg (val l))) :
    Calls Tryd.prog 17 #[.pointer (some ⟨p, 0, none⟩)] w fun e w' => e = .returned (.tuple #[.int .i64 (sg neg (val l)), .int .i64 0]) ∧ w' = w := by
  have H : Hid (IsBig w p neg v l) := h
  have Hf : Hid (Fits (sg neg (val l))) := hf
  have h2 : l.length ≤ 2 := len_two h.wd.ok h.nrm (by
    unfold Fits sg at hf; cases neg <;> simp at hf <;> omega)
  clear h hf
  generalize hx : sg neg (val l) = x at *
  have Hx : Hid (sg neg (val l) = x) := hx
  clear hx
  go_enter Tryd.func17, Tryd.ntmps17
  go_wp2_with fail
  refine (isInt64_any p neg v l w H.out hl).mono ?_
  rintro e w' ⟨⟨b, rfl, hb⟩, hw⟩
  rw [hw]; clear hw w'
  obtain rfl : b = true := hb.2 (by rw [Hx.out]; exact Hf.out)
  clear hb
  go_wp2_with fail
  refine (int64_any p neg v l w H.out h2 (by rw [Hx.out]; exact Hf.out.1) (by rw [Hx.out]; exact Hf.out.2)).mono ?_
  rintro e w' ⟨rfl, hw⟩
  rw [hw, Hx.out]; clear hw w'
  go_wp2
  go_ret2
  exact ⟨rfl, rfl⟩

theorem small_no (p : Nat) (neg : Bool) (v : Value) (l : List Nat) (w : World) (h : IsBig w p neg v l) (hl : l.length < 35184372088832) (hf : ¬ Fits (sg neg (val l))) :
    Calls Tryd.prog 17 #[.pointer (some ⟨p, 0, none⟩)] w fun e w' => e = .returned (.tuple #[.int .i64 0, .int .i64 10]) ∧ w' = w := by
  have H : Hid (IsBig w p neg v l) := h
  have Hf : Hid (¬ Fits (sg neg (val l))) := hf
  clear h hf
  go_enter Tryd.func17, Tryd.ntmps17
  go_wp2_with fail
  refine (isInt64_any p neg v l w H.out hl).mono ?_
  rintro e w' ⟨⟨b, rfl, hb⟩, hw⟩
  rw [hw]; clear hw w'
  obtain rfl : b = false := by
    cases b
    · rfl
    · exact absurd (hb.1 rfl) Hf.out
  clear hb
  go_wp2
  go_ret2
  exact ⟨rfl, rfl⟩
end Go.Proofs.YtphlcjghcffnbaaDoor
