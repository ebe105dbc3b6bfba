/-
  Two more laws on a statement whose order of evaluation is left open: what is waited for by one for which the named one waits; and one that comes up alone. They name no program.
-/
import Derived.Test.YtagimpmefodaeaaGreatDoorZl13
import Derived.Test.YtagimpmefodaeaaGreatDoorZl8
import Derived.Test.YtagimpmefodaeaaGreatDoorZl7
namespace Go.Proofs.YtagimpmefodaeaaGreatDoor
set_option linter.unusedVariables false
open Go.RowKit Big

/-- A bit of a number is a bit of one of its words. -/
theorem word_bit {l : List Nat} (ho : Ok l) (k j : Nat) (hj : j < 32) (hk : k < l.length) : val l / 2 ^ (32 * k + j) % 2 = l.getD k 0 / 2 ^ j % 2 := by
  have e : val l = val (l.take k) + 4294967296 ^ k * (l.getD k 0 + 4294967296 * val (l.drop (k + 1))) := by
    have h1 := val_append (l.take k) (l.drop k)
    rw [List.take_append_drop, List.length_take, Nat.min_eq_left (Nat.le_of_lt hk)] at h1
    have h2 : l.drop k = l.getD k 0 :: l.drop (k + 1) := by rw [List.drop_eq_getElem_cons hk]; simp [hk]
    rw [h1, h2]; rfl
  have hlt := val_lt (ok_take ho k)
  rw [List.length_take, Nat.min_eq_left (Nat.le_of_lt hk)] at hlt
  have hB : 0 < 4294967296 ^ k := Nat.pow_pos (by omega)
  rw [Nat.pow_add, ← pow32, ← Nat.div_div_eq_div_mul, e, Nat.add_mul_div_left _ _ hB, Nat.div_eq_of_lt hlt, Nat.zero_add]
  have e2 : 4294967296 = 2 ^ j * (2 * 2 ^ (31 - j)) := by
    rw [show 2 * 2 ^ (31 - j) = 2 ^ (32 - j) by rw [← Nat.pow_succ']; congr 1; omega, ← Nat.pow_add, show j + (32 - j) = 32 by omega]
  have hJ := Nat.two_pow_pos j
  rw [show l.getD k 0 + 4294967296 * val (l.drop (k + 1)) = l.getD k 0 + 2 ^ j * (2 * (2 ^ (31 - j) * val (l.drop (k + 1)))) by
    rw [← Nat.mul_assoc 2, ← Nat.mul_assoc (2 ^ j), ← e2], Nat.add_mul_div_left _ _ hJ, Nat.add_mul_mod_self_left]

/-- Bit i of a number. -/
def bitOf (n i : Nat) : Nat := n / 2 ^ i % 2

theorem bit_any (v : Value) (l : List Nat) (k j : Nat) (w : World) (h : Wd w v l) (hj : j < 32) (hk : k < l.length) (hl : l.length < 35184372088832) :
    Calls Tryz.prog 109 #[v, .int .i64 ((32 * k + j : Nat) : Int)] w fun e w' => e = .returned (.int .u64 (bitOf (val l) (32 * k + j))) ∧ w' = w := by
  have ho := h.ok
  rcases h.at_ with ⟨h0, a, cap, hv⟩ | ⟨h0, b, off, cap, hv, hb, hcap, hc⟩
  · subst h0; simp at hk
  · subst hv
    have hck := hc k hk
    have hW : bitOf (val l) (32 * k + j) = l.getD k 0 / 2 ^ j % 2 := word_bit ho k j hj hk
    have hx := ho k hk
    generalize l.getD k 0 = x at *
    obtain ⟨i, hi⟩ : ∃ i, i = 32 * k + j := ⟨_, rfl⟩
    rw [← hi] at hW ⊢
    have e1 : (i : Int) / 32 = k := by omega
    have e2 : (i : Int) % 32 = j := by omega
    have e3 : (x : Int) / 2 ^ j = ((x / 2 ^ j : Nat) : Int) := by rw [Int.natCast_ediv, Int.natCast_pow]; rfl
    have hy : x / 2 ^ j ≤ x := Nat.div_le_self _ _
    generalize hyg : x / 2 ^ j = y at *
    have e4 : bits .and .u64 (y : Int) 1 = ((y % 2 : Nat) : Int) := by
      have := bits_and_u64_nat y 1 (by omega) (by omega)
      rw [Nat.and_one_is_mod] at this
      exact this
    have hr : y % 2 < 2 := Nat.mod_lt _ (by omega)
    generalize y % 2 = r at *
    have HW : Hid (bitOf (val l) i = r) := hW
    have i1 : (i : Int) < 2000000000000000 := by omega
    have i2 : ¬ ((i : Int) < 0) := by omega
    have i3 : (k : Int) < l.length := by omega
    have i4 : (j : Int) < 32 := by omega
    have i5 : (y : Int) < 4294967296 := by omega
    have i6 : (x : Int) < 4294967296 := by omega
    have i7 : ¬ ((l.length : Int) ≤ k) := by omega
    clear h ho hc hW hi hyg
    go_enter Tryz.func109, Tryz.ntmps109
    go_wp2
    go_ret
    exact ⟨by rw [HW.out]; rfl, rfl⟩

theorem first_bit (n i : Nat) (h : ∀ k, k < i → bitOf n k = 0) : n % 2 ^ i = 0 := by
  induction i with
  | zero => simp [Nat.mod_one]
  | succ i ih =>
    have h1 := ih (fun k hk => h k (by omega))
    have h2 := h i (by omega)
    unfold bitOf at h2
    have hp := Nat.two_pow_pos i
    obtain ⟨q, hq⟩ := Nat.dvd_of_mod_eq_zero h1
    rw [hq, Nat.mul_div_cancel_left _ hp] at h2
    obtain ⟨t, ht⟩ := Nat.dvd_of_mod_eq_zero h2
    rw [hq, ht, Nat.pow_succ, ← Nat.mul_assoc]
    exact Nat.mul_mod_right _ _

/-- Of a number of just 64 bits. -/
theorem tz_facts (n i : Nat) (h1 : 9223372036854775808 ≤ n) (h2 : n < 18446744073709551616) (hz : ∀ k, k < i → bitOf n k = 0) (hi : bitOf n i = 1) : i ≤ 63 ∧ (i = 63 ↔ n = 9223372036854775808) := by
  have top : bitOf n 63 = 1 := by
    unfold bitOf
    have : n / 2 ^ 63 = 1 := by
      apply Nat.div_eq_of_lt_le <;> omega
    rw [this]
  have hle : i ≤ 63 := by
    apply Classical.byContradiction
    intro hn
    have := hz 63 (by omega)
    omega
  refine ⟨hle, ?_, ?_⟩
  · rintro rfl
    have := first_bit n 63 hz
    omega
  · rintro rfl
    apply Classical.byContradiction
    intro hn
    have h3 : i < 63 := by omega
    have e : (9223372036854775808 : Nat) = 2 ^ i * (2 * 2 ^ (62 - i)) := by
      rw [show 2 * 2 ^ (62 - i) = 2 ^ (63 - i) by rw [← Nat.pow_succ']; congr 1; omega, ← Nat.pow_add, show i + (63 - i) = 63 by omega]
    unfold bitOf at hi
    rw [e, Nat.mul_div_cancel_left _ (Nat.two_pow_pos i)] at hi
    omega
end Go.Proofs.YtagimpmefodaeaaGreatDoor

namespace Go.Proofs.YtagimpmefodaeaaGreatDoor
set_option linter.unusedVariables false
open Go.RowKit Big

theorem bit_i (v : Value) (l : List Nat) (i : Nat) (w : World) (h : Wd w v l) (hk : i / 32 < l.length) (hl : l.length < 35184372088832) :
    Calls Tryz.prog 109 #[v, .int .i64 (i : Int)] w fun e w' => e = .returned (.int .u64 (bitOf (val l) i)) ∧ w' = w := by
  have := bit_any v l (i / 32) (i % 32) w h (by omega) hk hl
  rw [show 32 * (i / 32) + i % 32 = i by omega] at this
  exact this

theorem top_bit (n : Nat) (h1 : 9223372036854775808 ≤ n) (h2 : n < 18446744073709551616) : bitOf n 63 = 1 := by
  unfold bitOf
  have : n / 2 ^ 63 = 1 := by
    apply Nat.div_eq_of_lt_le <;> omega
  rw [this]

theorem bit01 (n i : Nat) : bitOf n i = 0 ∨ bitOf n i = 1 := by unfold bitOf; omega

theorem len_two {l : List Nat} (ho : Ok l) (hn : Nrm l) (h2 : val l < 18446744073709551616) : l.length ≤ 2 := by
  rcases Nat.eq_zero_or_pos l.length with h0 | h0
  · omega
  · have h3 := val_ge hn h0
    apply Classical.byContradiction
    intro hc
    have : 4294967296 ^ 2 ≤ 4294967296 ^ (l.length - 1) := Nat.pow_le_pow_right (by omega) (by omega)
    omega
theorem len_two' {l : List Nat} (ho : Ok l) (h1 : 9223372036854775808 ≤ val l) : 2 ≤ l.length := by
  have h3 := val_lt ho
  apply Classical.byContradiction
  intro hc
  have : 4294967296 ^ l.length ≤ 4294967296 ^ 1 := Nat.pow_le_pow_right (by omega) (by omega)
  omega

set_option maxHeartbeats 1000000 in
theorem tzb_any (p : Nat) (neg : Bool) (v : Value) (l : List Nat) (w : World) (h : IsBig w p neg v l) (h1 : 9223372036854775808 ≤ val l) (h2 : val l < 18446744073709551616) :
    Calls Tryz.prog 93 #[.pointer (some ⟨p, 0, none⟩)] w fun e w' => (∃ i : Nat, e = .returned (.int .u64 i) ∧ i ≤ 63 ∧ (i = 63 ↔ val l = 9223372036854775808)) ∧ w' = w := by
  have c1 := blk_cell1 h.blk
  have l1 := len_two h.wd.ok h.nrm h2
  have l2 := len_two' h.wd.ok h1
  obtain ⟨a, cap, hv⟩ := h.wd.slice
  have hlen : l.length = 2 := by omega
  rw [hlen] at hv
  subst hv
  have H : Hid (Wd w (.slice a 2 cap) l) := h.wd
  have Hl : Hid (l.length = 2) := hlen
  have F : Hid (∀ i, (∀ k, k < i → bitOf (val l) k = 0) → bitOf (val l) i = 1 → i ≤ 63 ∧ (i = 63 ↔ val l = 9223372036854775808)) := fun i hz hi => tz_facts (val l) i h1 h2 hz hi
  have Top : Hid (bitOf (val l) 63 = 1) := top_bit _ h1 h2
  clear h h1 h2 l1 l2 hlen
  generalize hn : val l = n at *
  have Hn : Hid (val l = n) := hn
  clear hn
  go_enter Tryz.func93, Tryz.ntmps93
  go_wp2
  go_loop [3] (fun tn => ∃ i : Nat, (i : Int) ≤ 63 ∧ tn = .int .u64 i ∧ Hid (∀ k, k < i → bitOf n k = 0)) (fun tn => 64 - (RowKit.intOf tn).toNat)
  case atStart => exact ⟨0, by omega, rfl, fun k hk => by omega⟩
  case round =>
    obtain ⟨i, hi, rfl, Hz⟩ := hrel
    go_wp2_with fail
    refine (bit_i _ l i w H.out (by have := Hl.out; omega) (by have := Hl.out; omega)).mono ?_
    rintro e w' ⟨rfl, hw⟩
    rw [hw, Hn.out]; clear hw w'
    rcases bit01 n i with hb | hb
    · rw [hb]
      have R : Hid (i + 1 ≤ 63 ∧ ∀ k, k < i + 1 → bitOf n k = 0) := by
        have hz : ∀ k, k < i + 1 → bitOf n k = 0 := fun k hk => by
          rcases Nat.lt_or_ge k i with h | h
          · exact Hz.out k h
          · rw [show k = i by omega]; exact hb
        refine ⟨?_, hz⟩
        apply Classical.byContradiction
        intro hc
        have hi63 : i = 63 := by omega
        subst hi63
        have := Top.out
        omega
      clear hb Hz F
      go_wp2
      go_round
      case rel => exact ⟨i + 1, by have := R.out.1; omega, by go_num, R.out.2⟩
      case measure => simp [RowKit.intOf]; omega
    · rw [hb]
      have R : Hid (i ≤ 63 ∧ (i = 63 ↔ n = 9223372036854775808)) := F.out i Hz.out hb
      clear hb Hz F
      go_wp2
      go_ret
      exact ⟨⟨i, rfl, R.out.1, R.out.2⟩, rfl⟩

/-- Is it of 64 bits? -/
def Fits (x : Int) : Prop := -9223372036854775808 ≤ x ∧ x ≤ 9223372036854775807

set_option maxHeartbeats 1000000 in
theorem isInt64_any (p : Nat) (neg : Bool) (v : Value) (l : List Nat) (w : World) (h : IsBig w p neg v l) (hl : l.length < 35184372088832) :
    Calls Tryz.prog 74 #[.pointer (some ⟨p, 0, none⟩)] w fun e w' => (∃ b : Bool, e = .returned (.bool b) ∧ (b = true ↔ Fits (sg neg (val l)))) ∧ w' = w := by
  have c0 := blk_cell0 h.blk
  have c1 := blk_cell1 h.blk
  have H : Hid (IsBig w p neg v l) := h
  clear h
  generalize hn : val l = n at *
  have Hn : Hid (val l = n) := hn
  clear hn
  go_enter Tryz.func74, Tryz.ntmps74
  go_wp2_with fail
  refine (length_any v l w H.out.wd H.out.nrm hl).mono ?_
  rintro e w' ⟨⟨L, rfl, hB⟩, hw⟩
  rw [hw]; clear hw w'
  rw [Hn.out] at hB
  have HB : Hid (Bits n L) := hB
  clear hB
  rcases Nat.lt_trichotomy L 64 with hL | hL | hL
  · have R : Hid (Fits (sg neg n)) := by
      have hlt : n < 9223372036854775808 := by
        rcases HB.out with ⟨h, _⟩ | ⟨h1, _, h2⟩
        · omega
        · have : 2 ^ L ≤ 2 ^ 63 := Nat.pow_le_pow_right (by omega) (by omega)
          omega
      unfold Hid Fits sg; cases neg <;> simp <;> omega
    have t1 : (L : Int) < 64 := by omega
    clear HB
    go_wp2
    go_ret
    exact ⟨⟨true, rfl, fun _ => R.out, fun _ => rfl⟩, rfl⟩
  · subst hL
    have h12 : Hid (9223372036854775808 ≤ n ∧ n < 18446744073709551616) := by
      rcases HB.out with ⟨_, h⟩ | ⟨_, h1, h2⟩
      · omega
      · exact ⟨h1, h2⟩
    clear HB
    cases neg
    · have R : Hid (¬ Fits (sg false n)) := by
        have := h12.out
        unfold Hid Fits sg; simp; omega
      go_wp2
      go_ret
      exact ⟨⟨false, rfl, fun h => by simp at h, fun h => absurd h R.out⟩, rfl⟩
    · go_wp2_with fail
      refine (tzb_any p true v l w H.out (by rw [Hn.out]; exact h12.out.1) (by rw [Hn.out]; exact h12.out.2)).mono ?_
      rintro e w' ⟨⟨i, rfl, hi, hiff⟩, hw⟩
      rw [hw]; clear hw w'
      rw [Hn.out] at hiff
      have R : Hid (((i : Int) == 63) = true ↔ Fits (sg true n)) := by
        have := h12.out
        unfold Hid Fits sg
        simp
        omega
      clear hiff
      go_wp2
      go_ret
      exact ⟨⟨_, rfl, R.out⟩, rfl⟩
  · have R : Hid (¬ Fits (sg neg n)) := by
      have hge : 18446744073709551616 ≤ n := by
        rcases HB.out with ⟨_, h⟩ | ⟨h1, h2, _⟩
        · omega
        · have : 2 ^ 64 ≤ 2 ^ (L - 1) := Nat.pow_le_pow_right (by omega) (by omega)
          omega
      unfold Hid Fits sg; cases neg <;> simp <;> omega
    have t1 : ¬ ((L : Int) < 64) := by omega
    have t2 : ((L : Int) == 64) = false := by simp; omega
    clear HB
    go_wp2
    go_ret
    refine ⟨⟨false, ?_, fun h => by simp at h, fun h => absurd h R.out⟩, rfl⟩
    simp
    omega

theorem small_yes (p : Nat) (neg : Bool) (v : Value) (l : List Nat) (w : World) (h : IsBig w p neg v l) (hl : l.length < 35184372088832) (hf : Fits (sg neg (val l))) :
    Calls Tryz.prog 50 #[.pointer (some ⟨p, 0, none⟩)] w fun e w' => e = .returned (.tuple #[.int .i64 (sg neg (val l)), .int .i64 0]) ∧ w' = w := by
  have H : Hid (IsBig w p neg v l) := h
  have Hf : Hid (Fits (sg neg (val l))) := hf
  have h2 : l.length ≤ 2 := len_two h.wd.ok h.nrm (by
    unfold Fits sg at hf; cases neg <;> simp at hf <;> omega)
  clear h hf
  generalize hx : sg neg (val l) = x at *
  have Hx : Hid (sg neg (val l) = x) := hx
  clear hx
  go_enter Tryz.func50, Tryz.ntmps50
  go_wp2_with fail
  refine (isInt64_any p neg v l w H.out hl).mono ?_
  rintro e w' ⟨⟨b, rfl, hb⟩, hw⟩
  rw [hw]; clear hw w'
  obtain rfl : b = true := hb.2 (by rw [Hx.out]; exact Hf.out)
  clear hb
  go_wp2_with fail
  refine (int64_any p neg v l w H.out h2 (by rw [Hx.out]; exact Hf.out.1) (by rw [Hx.out]; exact Hf.out.2)).mono ?_
  rintro e w' ⟨rfl, hw⟩
  rw [hw, Hx.out]; clear hw w'
  go_wp2
  go_ret2
  exact ⟨rfl, rfl⟩

theorem small_no (p : Nat) (neg : Bool) (v : Value) (l : List Nat) (w : World) (h : IsBig w p neg v l) (hl : l.length < 35184372088832) (hf : ¬ Fits (sg neg (val l))) :
    Calls Tryz.prog 50 #[.pointer (some ⟨p, 0, none⟩)] w fun e w' => e = .returned (.tuple #[.int .i64 0, .int .i64 10]) ∧ w' = w := by
  have H : Hid (IsBig w p neg v l) := h
  have Hf : Hid (¬ Fits (sg neg (val l))) := hf
  clear h hf
  go_enter Tryz.func50, Tryz.ntmps50
  go_wp2_with fail
  refine (isInt64_any p neg v l w H.out hl).mono ?_
  rintro e w' ⟨⟨b, rfl, hb⟩, hw⟩
  rw [hw]; clear hw w'
  obtain rfl : b = false := by
    cases b
    · rfl
    · exact absurd (hb.1 rfl) Hf.out
  clear hb
  go_wp2
  go_ret2
  exact ⟨rfl, rfl⟩
end Go.Proofs.YtagimpmefodaeaaGreatDoor

namespace Go.Proofs.YtagimpmefodaeaaGreatDoor
set_option linter.unusedVariables false
open Go.RowKit Big

theorem few_words {neg : Bool} {l : List Nat} (hn : Nrm l) (h1 : -340282366920938463463374607431768211456 < sg neg (val l)) (h2 : sg neg (val l) < 340282366920938463463374607431768211456) : l.length < 35184372088832 := by
  have hv : val l < 4294967296 ^ 4 := by
    have : (val l : Int) < 340282366920938463463374607431768211456 := by unfold sg at *; cases neg <;> simp at h1 h2 <;> omega
    have e : (4294967296 : Nat) ^ 4 = 340282366920938463463374607431768211456 := by decide
    rw [e]; omega
  rcases Nat.eq_zero_or_pos l.length with h0 | h0
  · omega
  · have h3 := val_ge hn h0
    apply Classical.byContradiction
    intro hc
    have : 4294967296 ^ 4 ≤ 4294967296 ^ (l.length - 1) := Nat.pow_le_pow_right (by omega) (by omega)
    omega

/-- The sum, or 0; 0, or the fault's number. -/
def rV (s : Int) : Int := if -9223372036854775808 ≤ s ∧ s ≤ 9223372036854775807 then s else 0
def rE (s : Int) : Int := if -9223372036854775808 ≤ s ∧ s ≤ 9223372036854775807 then 0 else 10

/-- dayref1.Small, either way. -/
theorem small_any (p : Nat) (x : Int) (w : World) (h : BigIs w p x) (h1 : -340282366920938463463374607431768211456 < x) (h2 : x < 340282366920938463463374607431768211456) :
    Calls Tryz.prog 50 #[.pointer (some ⟨p, 0, none⟩)] w fun e w' => e = .returned (.tuple #[.int .i64 (rV x), .int .i64 (rE x)]) ∧ w' = w := by
  obtain ⟨neg, v, l, hb, rfl⟩ := h
  by_cases hf : Fits (sg neg (val l))
  · have e : rV (sg neg (val l)) = sg neg (val l) ∧ rE (sg neg (val l)) = 0 := by unfold rV rE; exact ⟨if_pos hf, if_pos hf⟩
    rw [e.1, e.2]
    exact small_yes p neg v l w hb (few_words hb.nrm h1 h2) hf
  · have e : rV (sg neg (val l)) = 0 ∧ rE (sg neg (val l)) = 10 := by unfold rV rE; exact ⟨if_neg hf, if_neg hf⟩
    rw [e.1, e.2]
    exact small_no p neg v l w hb (few_words hb.nrm h1 h2) hf

/-- x.Add(x, y), by the numbers. -/
theorem addTo_any (px py : Nat) (x y : Int) (w : World) (hx : BigIs w px x) (hy : BigIs w py y) (bx : -340282366920938463463374607431768211456 < x ∧ x < 340282366920938463463374607431768211456) (by_ : -340282366920938463463374607431768211456 < y ∧ y < 340282366920938463463374607431768211456) :
    Calls Tryz.prog 49 #[.pointer (some ⟨px, 0, none⟩), .pointer (some ⟨px, 0, none⟩), .pointer (some ⟨py, 0, none⟩)] w fun e w' => e = .returned (.pointer (some ⟨px, 0, none⟩)) ∧ Hid (BigIs w' px (x + y) ∧ w.grownBy w' (some px)) := by
  obtain ⟨nx, vx, lx, hx, rfl⟩ := hx
  obtain ⟨ny, vy, ly, hy, rfl⟩ := hy
  exact Add_any px px py nx nx ny vx vx vy lx ly w hx.blk hx.wd.noInt hx hy (few_words hx.nrm bx.1 bx.2) (few_words hy.nrm by_.1 by_.2)

end Go.Proofs.YtagimpmefodaeaaGreatDoor

namespace Go.Proofs.YtagimpmefodaeaaGreatDoor
set_option linter.unusedVariables false
open Go.RowKit Big

theorem rtake_sum (l : List Int) (k : Nat) (h : k < l.length) : (l.take (k + 1)).sum = (l.take k).sum + l.getD k 0 := by
  rw [List.take_succ_eq_append_getElem h, List.sum_append]
  simp [h]
theorem rsum_bound (l : List Int) (k : Nat) (h : k ≤ l.length) (hI : ∀ i, i < l.length → Math.I64 (l.getD i 0)) :
    -((k : Int) * 9223372036854775808) ≤ (l.take k).sum ∧ (l.take k).sum ≤ (k : Int) * 9223372036854775808 := by
  induction k with
  | zero => simp
  | succ k ih =>
    have := ih (by omega)
    have h2 := hI k (by omega)
    unfold Math.I64 at h2
    rw [rtake_sum l k (by omega)]
    omega

set_option maxHeartbeats 2000000 in
theorem refSum_run (b off cap n : Nat) (l : List Int) (w : World) (hn : l.length = n) (hlen : l.length ≤ 140737488355328) (hI : Hid (∀ i, i < l.length → Math.I64 (l.getD i 0)))
    (hc : Hid (∀ i, i < l.length → b < w.heap.size ∧ w.cell? ⟨b, off + i, none⟩ = some (.int .i64 (l.getD i 0)))) :
    Calls Tryz.prog 23 #[.slice (some ⟨b, off, none⟩) n cap] w fun e w' => e = .returned (.tuple #[.int .i64 (rV l.sum), .int .i64 (rE l.sum)]) ∧ Hid (w.grownBy w' none) := by
  subst hn
  go_enter Tryz.func23, Tryz.ntmps23
  go_wp2_with fail
  refine (big_any 0 w (by omega) (by omega)).mono ?_
  rintro e w0 ⟨rfl, hb0, hg0⟩
  have Hb0 : Hid (BigIs w0 w.heap.size 0 ∧ w.grownBy w0 none) := ⟨hb0, hg0⟩
  clear hb0 hg0
  go_wp2
  go_loopw [5] (fun ti wr => ∃ k : Nat, k ≤ l.length ∧ ti = .int .i64 k ∧ Hid (BigIs wr w.heap.size (l.take k).sum ∧ w.grownBy wr none ∧ w.heap.size < wr.heap.size)) (fun ti _ => l.length - (RowKit.intOf ti).toNat)
  case atStart =>
    obtain ⟨_, _, _, hbb, _⟩ := Hb0.out.1
    exact ⟨0, Nat.zero_le _, rfl, by simpa using Hb0.out.1, Hb0.out.2, blk_lt hbb.blk⟩
  case round =>
    obtain ⟨k, hk, rfl, Hr⟩ := hrel
    by_cases hlt : k < l.length
    · have hck := Hr.out.2.1.cell (hc.out k hlt).2 (by simp)
      have hik := hI.out k hlt
      have hts := rtake_sum l k hlt
      have hbd := rsum_bound l k hk hI.out
      generalize l.getD k 0 = x at *
      generalize (l.take k).sum = s at *
      have Hts : Hid ((l.take (k + 1)).sum = s + x) := hts
      have Hbd : Hid (-1298074214633706907132624082305024 ≤ s ∧ s ≤ 1298074214633706907132624082305024) := by
        refine ⟨?_, ?_⟩ <;> omega
      have Hik : Hid (Math.I64 x) := hik
      clear hts hbd hik
      go_wp2_with fail
      refine (big_any x wr Hik.out.1 Hik.out.2).mono ?_
      rintro e w1 ⟨rfl, hb1, hg1⟩
      have Hx : Hid (BigIs w1 wr.heap.size x ∧ BigIs w1 w.heap.size s ∧ w.grownBy w1 none ∧ wr.grownBy w1 none) := by
        obtain ⟨nx, vx, lx, hbx, hsx⟩ := Hr.out.1
        have hblk := (hg1.block w.heap.size Hr.out.2.2 (by simp)).trans hbx.blk
        exact ⟨hb1, ⟨nx, vx, lx, ⟨hblk, hbx.wd.grow hg1, hbx.nrm, hbx.sgn⟩, hsx⟩, gtrans Hr.out.2.1 hg1, hg1⟩
      clear hb1 hg1
      go_wp2_with fail
      refine (addTo_any w.heap.size wr.heap.size s x w1 Hx.out.2.1 Hx.out.1 (by have := Hbd.out; omega) (by have := Hik.out; unfold Math.I64 at this; omega)).mono ?_
      rintro e w2 ⟨rfl, hR⟩
      have HR : Hid (BigIs w2 w.heap.size (l.take (k + 1)).sum ∧ w.grownBy w2 none ∧ w.heap.size < w2.heap.size) := by
        refine ⟨by rw [Hts.out]; exact hR.out.1, ?_, ?_⟩
        · have h1 := hR.out.2
          exact ⟨h1.os.trans Hx.out.2.2.1.os, h1.tape.trans Hx.out.2.2.1.tape, h1.output.trans Hx.out.2.2.1.output, Nat.le_trans Hx.out.2.2.1.size h1.size, fun i hi _ => (h1.block i (Nat.lt_of_lt_of_le hi Hx.out.2.2.1.size) (by simp; omega)).trans (Hx.out.2.2.1.block i hi (by simp))⟩
        · obtain ⟨_, _, _, hbb, _⟩ := hR.out.1
          exact blk_lt hbb.blk
      clear hR Hx Hr
      go_wp2
      go_roundw
      case rel => exact ⟨k + 1, by omega, by go_num, HR⟩
      case measure => simp [RowKit.intOf]; omega
    · have hk2 : k = l.length := by omega
      subst hk2
      have hbd := rsum_bound l l.length (Nat.le_refl _) hI.out
      rw [List.take_length] at hbd
      have Hr' : Hid (BigIs wr w.heap.size l.sum ∧ w.grownBy wr none) := by
        have := Hr.out
        rw [List.take_length] at this
        exact ⟨this.1, this.2.1⟩
      have Hbd : Hid (-1298074214633706907132624082305024 ≤ l.sum ∧ l.sum ≤ 1298074214633706907132624082305024) := by
        refine ⟨?_, ?_⟩ <;> omega
      clear hbd Hr
      go_wp2_with fail
      refine (small_any w.heap.size l.sum wr Hr'.out.1 (by have := Hbd.out; omega) (by have := Hbd.out; omega)).mono ?_
      rintro e w1 ⟨rfl, hw⟩
      rw [hw]; clear hw w1
      go_wp2
      go_ret2
      exact ⟨rfl, Hr'.out.2⟩
end Go.Proofs.YtagimpmefodaeaaGreatDoor

namespace Go.Proofs.YtagimpmefodaeaaGreatDoor
set_option linter.unusedVariables false
set_option linter.unusedSimpArgs false
open Go.RowKit

def Bl.plus (y x : Bl) : Bl := ⟨y.ent, y.acc, y.cur, y.amt + x.amt⟩
theorem plus_key (y x : Bl) : (y.plus x).key = y.key := rfl
def putB : List Bl → Bl → List Bl
  | [], x => [x]
  | y :: l, x => if cmpB y x < 0 then y :: putB l x else if cmpB x y < 0 then x :: y :: l else y.plus x :: l
/-- How many stand ahead. -/
def putAt : List Bl → Bl → Nat
  | [], x => 0
  | y :: l, x => if cmpB y x < 0 then putAt l x + 1 else 0
theorem putAt_le : ∀ (l : List Bl) (x : Bl), putAt l x ≤ l.length
  | [], x => Nat.le_refl _
  | y :: l, x => by
    unfold putAt
    have := putAt_le l x
    split <;> simp <;> omega
theorem putAt_ahead : ∀ (l : List Bl) (x : Bl) (j : Nat), j < putAt l x → cmpB (l.getD j bl0) x < 0
  | [], x, j, h => by simp [putAt] at h
  | y :: l, x, j, h => by
    unfold putAt at h
    split at h
    · rename_i hy
      rcases j with _ | j
      · simpa using hy
      · have := putAt_ahead l x j (by omega)
        simpa using this
    · omega
theorem putAt_stop : ∀ (l : List Bl) (x : Bl), putAt l x < l.length → ¬ cmpB (l.getD (putAt l x) bl0) x < 0
  | [], x, h => by simp at h
  | y :: l, x, h => by
    unfold putAt at h ⊢
    split at h
    · rename_i hy
      rw [if_pos hy]
      have := putAt_stop l x (by simp at h; omega)
      simpa using this
    · rename_i hy
      rw [if_neg hy]
      simpa using hy
theorem putAt_eq {l : List Bl} {x : Bl} {k : Nat} (h1 : ∀ j, j < k → cmpB (l.getD j bl0) x < 0) (h2 : k < l.length → ¬ cmpB (l.getD k bl0) x < 0) (hk : k ≤ l.length) : k = putAt l x := by
  rcases (by omega : k < putAt l x ∨ k = putAt l x ∨ putAt l x < k) with h | h | h
  · exact absurd (putAt_ahead l x k h) (h2 (by have := putAt_le l x; omega))
  · exact h
  · exact absurd (h1 _ h) (putAt_stop l x (by omega))
theorem putB_eq : ∀ (l : List Bl) (x : Bl), putB l x = if putAt l x < l.length ∧ ¬ cmpB x (l.getD (putAt l x) bl0) < 0 then l.take (putAt l x) ++ (l.getD (putAt l x) bl0).plus x :: l.drop (putAt l x + 1) else l.take (putAt l x) ++ x :: l.drop (putAt l x)
  | [], x => by simp [putB, putAt]
  | y :: l, x => by
    unfold putB putAt
    by_cases h1 : cmpB y x < 0
    · simp only [h1, if_true, List.length_cons, Nat.add_lt_add_iff_right, List.getD_cons_succ, List.take_succ_cons, List.drop_succ_cons, putB_eq l x]
      split <;> simp
    · simp only [h1, if_false]
      by_cases h2 : cmpB x y < 0
      · simp [h2]
      · simp [h2]
theorem putB_tot (k : Pk) : ∀ (l : List Bl) (x : Bl), ltot k (putB l x) = ltot k l + if x.key = k then x.amt else 0
  | [], x => by simp [putB, ltot]
  | y :: l, x => by
    unfold putB
    split
    · rw [ltot, putB_tot k l x, ltot]; omega
    · split
      · rw [ltot]; omega
      · rename_i h1 h2
        have e : y.key = x.key := by
          false_or_by_contra
          rename_i hne
          exact h2 (cmpB_total h1 hne)
        rw [ltot, ltot, plus_key, e]
        simp only [Bl.plus]
        split <;> omega
theorem putB_keys (k : Pk) : ∀ (l : List Bl) (x : Bl), (∃ y ∈ putB l x, y.key = k) ↔ (∃ y ∈ l, y.key = k) ∨ x.key = k
  | [], x => by simp [putB]
  | y :: l, x => by
    have ih := putB_keys k l x
    simp only [List.mem_cons, exists_eq_or_imp] at ih ⊢
    unfold putB
    split
    · simp only [List.mem_cons, exists_eq_or_imp, ih, or_assoc]
    · split
      · simp only [List.mem_cons, exists_eq_or_imp]
        constructor
        · rintro (h | h)
          · exact .inr h
          · exact .inl h
        · rintro (h | h)
          · exact .inr h
          · exact .inl h
      · rename_i h1 h2
        have e : y.key = x.key := by
          false_or_by_contra
          rename_i hne
          exact h2 (cmpB_total h1 hne)
        simp only [List.mem_cons, exists_eq_or_imp, plus_key]
        constructor
        · intro h; exact .inl h
        · rintro (h | h)
          · exact h
          · exact .inl (e.trans h)
theorem cmpB_plus (y x z : Bl) : cmpB (y.plus x) z = cmpB y z ∧ cmpB z (y.plus x) = cmpB z y := ⟨rfl, rfl⟩
theorem putB_behind {y : Bl} : ∀ {l : List Bl} {x : Bl}, (∀ z ∈ l, cmpB y z < 0) → cmpB y x < 0 → ∀ z ∈ putB l x, cmpB y z < 0
  | [], x, _, hx, z, hz => by
    simp only [putB, List.mem_singleton] at hz
    rw [hz]; exact hx
  | q :: l, x, h, hx, z, hz => by
    have h1 := h q (List.mem_cons_self ..)
    have h2 : ∀ z ∈ l, cmpB y z < 0 := fun z hz => h z (List.mem_cons_of_mem _ hz)
    unfold putB at hz
    split at hz
    · rcases List.mem_cons.1 hz with rfl | hz
      · exact h1
      · exact putB_behind h2 hx z hz
    · split at hz
      · rcases List.mem_cons.1 hz with rfl | hz
        · exact hx
        · exact h z hz
      · rcases List.mem_cons.1 hz with rfl | hz
        · exact h1
        · exact h2 z hz
theorem putB_rises : ∀ {l : List Bl} {x : Bl}, Rises l → Rises (putB l x)
  | [], x, _ => List.pairwise_singleton _ _
  | y :: l, x, h => by
    obtain ⟨h1, h2⟩ := List.pairwise_cons.1 h
    unfold putB
    split
    · rename_i hy
      exact List.pairwise_cons.2 ⟨putB_behind h1 hy, putB_rises h2⟩
    · split
      · rename_i hy
        exact List.pairwise_cons.2 ⟨fun z hz => by
          rcases List.mem_cons.1 hz with rfl | hz
          · exact hy
          · exact cmpB_trans hy (h1 z hz), h⟩
      · exact List.pairwise_cons.2 ⟨h1, h2⟩
theorem putB_length : ∀ (l : List Bl) (x : Bl), (putB l x).length ≤ l.length + 1
  | [], x => by simp [putB]
  | y :: l, x => by
    have := putB_length l x
    unfold putB
    split
    · simp; exact this
    · split <;> simp
/-- All of some put into others. -/
def putL (l m : List Bl) : List Bl := m.foldl putB l
theorem putL_snoc (l m : List Bl) (k : Nat) (h : k < m.length) : putL l (m.take (k + 1)) = putB (putL l (m.take k)) (m.getD k bl0) := by
  rw [bls_take m k h, putL, List.foldl_append]; rfl
theorem putL_rises : ∀ {m l : List Bl}, Rises l → Rises (putL l m)
  | [], l, h => h
  | x :: m, l, h => putL_rises (m := m) (putB_rises h)
theorem putL_tot (k : Pk) : ∀ (m l : List Bl), ltot k (putL l m) = ltot k (l ++ m)
  | [], l => by simp [putL]
  | x :: m, l => by
    have h1 : ltot k (putL (putB l x) m) = ltot k (putB l x ++ m) := putL_tot k m (putB l x)
    show ltot k (putL (putB l x) m) = _
    rw [h1, ltot_append, putB_tot, ltot_append, ltot]
    omega
theorem putL_keys (k : Pk) : ∀ (m l : List Bl), (∃ y ∈ putL l m, y.key = k) ↔ ∃ y ∈ l ++ m, y.key = k
  | [], l => by simp [putL]
  | x :: m, l => by
    have h1 := putL_keys k m (putB l x)
    show (∃ y ∈ putL (putB l x) m, y.key = k) ↔ _
    rw [h1]
    have h2 := putB_keys k l x
    constructor
    · rintro ⟨y, hy, e⟩
      rcases List.mem_append.1 hy with hy | hy
      · rcases h2.1 ⟨y, hy, e⟩ with ⟨z, hz, ez⟩ | ez
        · exact ⟨z, List.mem_append_left _ hz, ez⟩
        · exact ⟨x, List.mem_append_right _ (List.mem_cons_self ..), ez⟩
      · exact ⟨y, List.mem_append_right _ (List.mem_cons_of_mem _ hy), e⟩
    · rintro ⟨y, hy, e⟩
      rcases List.mem_append.1 hy with hy | hy
      · obtain ⟨z, hz, ez⟩ := h2.2 (.inl ⟨y, hy, e⟩)
        exact ⟨z, List.mem_append_left _ hz, ez⟩
      · rcases List.mem_cons.1 hy with rfl | hy
        · obtain ⟨z, hz, ez⟩ := h2.2 (.inr e)
          exact ⟨z, List.mem_append_left _ hz, ez⟩
        · exact ⟨y, List.mem_append_right _ hy, e⟩
theorem putL_length : ∀ (m l : List Bl), (putL l m).length ≤ l.length + m.length
  | [], l => by simp [putL]
  | x :: m, l => by
    have h1 : (putL (putB l x) m).length ≤ _ := putL_length m (putB l x)
    have h2 := putB_length l x
    show (putL (putB l x) m).length ≤ _
    simp only [List.length_cons]
    omega
theorem Rises.nodup {l : List Bl} (h : Rises l) : (l.map Bl.key).Nodup := by
  rw [List.nodup_iff_pairwise_ne, List.pairwise_map]
  exact h.imp (fun {x y} hxy e => by have := cmpB_zero.2 e; omega)
/-- As many as there are places. -/
theorem putL_count {a b : List Bl} (ha : Rises a) : (putL a b).length = (parts (a ++ b)).length := by
  have h1 : ((putL a b).map Bl.key).Perm ((parts (a ++ b)).map Pt.key) := (List.perm_ext_iff_of_nodup (putL_rises ha).nodup (parts_nodup _)).2 (fun k => by
    rw [parts_keys, ← putL_keys k b a]
    simp)
  have := h1.length_eq
  simpa using this
theorem putL_sums {a b : List Bl} (ha : Rises a) : Sums (a ++ b) (full (putL a b)) :=
  ⟨(putL_rises ha).sublist List.filter_sublist, full_ne _, fun k => by rw [ltot_full, putL_tot]⟩
def inB (x : Bl) : Prop := -1000000000000000000 ≤ x.amt ∧ x.amt ≤ 1000000000000000000
/-- What is wrong with them, as it is looked for. -/
theorem mgE_put {a b : List Bl} (ha : chk a = 0) (hb : chk b = 0) (h2 : (putL a b).length ≤ 200) : ((∀ x ∈ full (putL a b), inB x) → mgE a b = 0) ∧ (¬ (∀ x ∈ full (putL a b), inB x) → mgE a b = 10) := by
  have fa := chk_zero.1 ha
  have fb := chk_zero.1 hb
  have hr := putL_rises (m := b) fa.rises
  have hc := putL_count (b := b) fa.rises
  have key : (∀ x ∈ full (putL a b), inB x) ↔ mgE a b = 0 := by
    rw [mgE_zero]
    constructor
    · intro h
      refine ⟨fa, fb, by omega, fun x hx => ?_⟩
      by_cases e : ltot x.key (a ++ b) = 0
      · rw [e]; omega
      · rw [← putL_tot, ← ltot_full] at e ⊢
        obtain ⟨y, hy, ey⟩ := ltot_ex e
        have h1 := ltot_mem (putL_sums (b := b) fa.rises).rises y hy
        rw [ey] at h1
        rw [h1]
        exact h y hy
    · intro h x hx
      have h1 := ltot_mem (putL_sums (b := b) fa.rises).rises x hx
      rw [ltot_full, putL_tot] at h1
      unfold inB
      rw [← h1]
      exact ltot_all h.2.2.2 _
  refine ⟨key.1, fun h => ?_⟩
  have h0 : mgE a b ≠ 0 := fun e => h (key.2 e)
  unfold mgE at h0 ⊢
  rw [if_neg (by simp [ha]), if_neg (by simp [hb]), if_neg (by omega)] at h0 ⊢
  split at h0
  · exact absurd rfl h0
  · rename_i h3
    rw [if_neg h3]
theorem mgE_put4 {a b : List Bl} (ha : chk a = 0) (hb : chk b = 0) (h2 : 200 < (putL a b).length) : mgE a b = 4 := by
  have hc := putL_count (b := b) (chk_zero.1 ha).rises
  unfold mgE
  rw [if_neg (by simp [ha]), if_neg (by simp [hb]), if_pos (by omega)]
end Go.Proofs.YtagimpmefodaeaaGreatDoor

namespace Go.Proofs.YtagimpmefodaeaaGreatDoor
set_option linter.unusedVariables false
set_option linter.unusedSimpArgs false
set_option maxRecDepth 100000
open Go.RowKit Go.Lib

set_option maxHeartbeats 1000000 in
theorem lmAhead_any (x y : Bl) (w : World) :
    Calls Tryz.prog 47 #[.agg x.cells, .agg y.cells] w fun e w' => e = .returned (.bool (decide (cmpB x y < 0))) ∧ Below w.heap.size w w' := by
  obtain ⟨x0, x1, x2, x3⟩ := x
  obtain ⟨y0, y1, y2, y3⟩ := y
  simp only [Bl.cells, cmpB]
  have bl : Below w.heap.size w ((w.alloc (.cells #[.int .i64 x0, .string x1, .string x2, .int .i64 x3] 92)).alloc (.cells #[.int .i64 y0, .string y1, .string y2, .int .i64 y3] 92)) := ((Below.refl _ w).alloc (Nat.le_refl _) _).alloc (by simp) _
  by_cases h0 : x0 = y0
  · subst h0
    have e0 : cmpI x0 x0 = 0 := by simp [cmpI]
    rw [e0, if_neg (by simp)]
    by_cases h1 : x1 = y1
    · subst h1
      rw [if_neg (by simp [ldCmpS_eq.2 rfl])]
      have er : decide (cmpS x2 y2 < 0) = Op.bytesLess x2.toList y2.toList := by rw [Bool.eq_iff_iff, decide_eq_true_eq, cmpS_neg]
      rw [er]
      clear er e0
      go_enter Tryz.func47, Tryz.ntmps47
      go_wp2
      go_ret
      exact ⟨rfl, bl⟩
    · have hc : cmpS x1 y1 ≠ 0 := fun h => h1 (ldCmpS_eq.1 h)
      rw [if_pos hc]
      have er : decide (cmpS x1 y1 < 0) = Op.bytesLess x1.toList y1.toList := by rw [Bool.eq_iff_iff, decide_eq_true_eq, cmpS_neg]
      rw [er]
      have h1' : ¬ x1.toList = y1.toList := fun e => h1 (toList_inj e)
      have h1b := en_ne h1
      clear er e0 hc h1
      go_enter Tryz.func47, Tryz.ntmps47
      go_wp2
      go_ret
      exact ⟨rfl, bl⟩
  · have hc : cmpI x0 y0 ≠ 0 := by unfold cmpI; split <;> (try split) <;> omega
    rw [if_pos hc]
    have er : decide (cmpI x0 y0 < 0) = decide (x0 < y0) := by
      unfold cmpI
      by_cases h : x0 < y0
      · simp [h]
      · rw [if_neg h]; simp [h]; split <;> omega
    rw [er]
    have h0' : (x0 != y0) = true := by simp [h0]
    clear er hc
    go_enter Tryz.func47, Tryz.ntmps47
    go_wp2
    go_ret
    exact ⟨rfl, bl⟩

set_option maxHeartbeats 4000000 in
theorem lmCheck_any (a : Option Addr) (cap : Nat) (l : List Bl) (w : World) (hlen : l.length ≤ 9223372036854775807) (h : IsBl w a l cap) :
    Calls Tryz.prog 21 #[.slice a l.length cap] w fun e w' => e = .returned (.int .i64 (chk l)) ∧ Below w.heap.size w w' := by
  by_cases h2 : 200 < l.length
  · have e4 : chk l = 4 := if_pos h2
    rw [e4]
    have i1 : (200 : Int) < l.length := by omega
    clear h e4
    go_enter Tryz.func21, Tryz.ntmps21
    go_wp2
    go_ret
    exact ⟨rfl, Below.refl _ _⟩
  have i1 : ¬ (200 : Int) < l.length := by omega
  have i2 : (l.length : Int) ≤ 200 := by omega
  obtain ⟨res, hres⟩ : ∃ res, chk l = res := ⟨_, rfl⟩
  have Hres : Hid (chkTo l l.length = res) := by
    rw [← hres]; unfold chk; rw [if_neg h2]; exact rfl
  rw [hres]
  clear hres
  have HL : Hid (IsBl w a l cap) := h
  clear h
  go_enter Tryz.func21, Tryz.ntmps21
  go_wp2
  go_loopw [3] (fun i wr => ∃ k : Nat, k ≤ l.length ∧ i = .int .i64 k ∧ Hid (chkTo l k = 0) ∧ Hid (Below w.heap.size w wr)) (fun i _ => l.length - (RowKit.intOf i).toNat)
  case atStart => exact ⟨0, Nat.zero_le _, rfl, rfl, Below.refl _ _⟩
  case round =>
    obtain ⟨k, hk, rfl, H0, HB⟩ := hrel
    by_cases hlt : k < l.length
    · obtain ⟨b, off, rfl, hb, hc⟩ := HL.out.some hlt
      have i0 : (0 : Int) ≤ k := by omega
      have i3 : (k : Int) < l.length := by omega
      have HC : Hid (BlsAt w b off l) := hc
      obtain ⟨y, hyy⟩ : ∃ y, l.getD k bl0 = y := ⟨_, rfl⟩
      have HYY : Hid (l.getD k bl0 = y) := hyy
      have HY : Hid (BlAt w b (off + k * 4) y) := by have := hc k hlt; rw [hyy] at this; exact this
      clear hyy hc
      obtain ⟨y0, y1, y2, y3⟩ := y
      go_upto_region 6 with fail
      go_cut [27] from 13 to 27 (fun t wx => t = .bool (decide (0 < k ∧ ¬ cmpB (l.getD (k - 1) bl0) ⟨y0, y1, y2, y3⟩ < 0)) ∧ Hid (Below wr.heap.size wr wx))
      case first =>
        rcases k with _ | m
        · go_wp2_with fail
          go_quiet (fail)
          rename Nat => nk
          have HZ : Hid (Below wr.heap.size wr (wr.drewN nk)) := en_drewN (Below.refl _ _) nk
          go_wp2
          go_meet
          case rel => exact ⟨by simp, HZ⟩
        · have hx := (HC.out m (by omega)).below HB.out hb
          have hy := HY.out.below HB.out hb
          have HER : Hid (decide (0 < m + 1 ∧ ¬ cmpB (l.getD (m + 1 - 1) bl0) ⟨y0, y1, y2, y3⟩ < 0) = !decide (cmpB (l.getD m bl0) ⟨y0, y1, y2, y3⟩ < 0)) := by
            unfold Hid
            rw [Nat.add_sub_cancel, Bool.eq_iff_iff]
            simp
          have HCm : Hid (∀ W, Calls Tryz.prog 47 #[.agg (l.getD m bl0).cells, .agg (Bl.mk y0 y1 y2 y3).cells] W fun e w' => e = .returned (.bool (decide (cmpB (l.getD m bl0) ⟨y0, y1, y2, y3⟩ < 0))) ∧ Below W.heap.size W w') := fun W => lmAhead_any _ _ W
          generalize l.getD m bl0 = x at hx HER HCm
          generalize decide (cmpB x ⟨y0, y1, y2, y3⟩ < 0) = c at *
          obtain ⟨x0, x1, x2, x3⟩ := x
          obtain ⟨d0, d1, d2, d3⟩ := hx
          obtain ⟨f0, f1, f2, f3⟩ := hy
          simp only [Bl.cells] at d0 d1 d2 d3 f0 f1 f2 f3 HCm
          have hbW : b < wr.heap.size := Nat.lt_of_lt_of_le hb HB.out.size
          have HK : Hid (∀ W V, Below W.heap.size W V → b < W.heap.size → (W.cell? ⟨b, off + m * 4, none⟩ = some (.int .i64 x0) ∧ W.cell? ⟨b, off + m * 4 + 1, none⟩ = some (.string x1) ∧ W.cell? ⟨b, off + m * 4 + 2, none⟩ = some (.string x2) ∧ W.cell? ⟨b, off + m * 4 + 3, none⟩ = some (.int .i64 x3)) ∧ W.cell? ⟨b, off + (m + 1) * 4, none⟩ = some (.int .i64 y0) ∧ W.cell? ⟨b, off + (m + 1) * 4 + 1, none⟩ = some (.string y1) ∧ W.cell? ⟨b, off + (m + 1) * 4 + 2, none⟩ = some (.string y2) ∧ W.cell? ⟨b, off + (m + 1) * 4 + 3, none⟩ = some (.int .i64 y3) → (V.cell? ⟨b, off + m * 4, none⟩ = some (.int .i64 x0) ∧ V.cell? ⟨b, off + m * 4 + 1, none⟩ = some (.string x1) ∧ V.cell? ⟨b, off + m * 4 + 2, none⟩ = some (.string x2) ∧ V.cell? ⟨b, off + m * 4 + 3, none⟩ = some (.int .i64 x3)) ∧ V.cell? ⟨b, off + (m + 1) * 4, none⟩ = some (.int .i64 y0) ∧ V.cell? ⟨b, off + (m + 1) * 4 + 1, none⟩ = some (.string y1) ∧ V.cell? ⟨b, off + (m + 1) * 4 + 2, none⟩ = some (.string y2) ∧ V.cell? ⟨b, off + (m + 1) * 4 + 3, none⟩ = some (.int .i64 y3)) := fun W V hB hlt hh => by
            have C : ∀ o, V.cell? ⟨b, o, none⟩ = W.cell? ⟨b, o, none⟩ := fun o => hB.cell (p := ⟨b, o, none⟩) hlt
            simp only [C]
            exact hh
          have j0 : (0 : Int) ≤ m := by omega
          have j1 : (m : Int) + 1 < l.length := by omega
          have j2 : (m : Int) < l.length := by omega
          have i6 : (m : Int) + 1 - 1 = m := by omega
          have i7 : ((m : Int) + 1).toNat = m + 1 := by omega
          have i8 : (0 : Int) ≤ (m : Int) + 1 := by omega
          have i9 : (0 : Int) < (m : Int) + 1 := by omega
          have iw1 : IntKind.i64.wrap (m : Int) = m := by
            simp only [IntKind.wrap, IntKind.bits, IntKind.signed]
            simp
            omega
          have iw2 : IntKind.i64.wrap ((m : Int) + 1 - 1) = m := by rw [i6, iw1]
          clear HC HYY HY HL H0 Hres i0 i3 HB
          go_wp2_with fail
          go_region_held3 (fun u => (u.cell? ⟨b, off + m * 4, none⟩ = some (.int .i64 x0) ∧ u.cell? ⟨b, off + m * 4 + 1, none⟩ = some (.string x1) ∧ u.cell? ⟨b, off + m * 4 + 2, none⟩ = some (.string x2) ∧ u.cell? ⟨b, off + m * 4 + 3, none⟩ = some (.int .i64 x3)) ∧ u.cell? ⟨b, off + (m + 1) * 4, none⟩ = some (.int .i64 y0) ∧ u.cell? ⟨b, off + (m + 1) * 4 + 1, none⟩ = some (.string y1) ∧ u.cell? ⟨b, off + (m + 1) * 4 + 2, none⟩ = some (.string y2) ∧ u.cell? ⟨b, off + (m + 1) * 4 + 3, none⟩ = some (.int .i64 y3)) (go_keep) (first | (go_at_call 47; refine (HCm.out _).mono ?_; rintro e w' ⟨rfl, hb'⟩; obtain ⟨⟨p0, p1, p2, p3⟩, p4, p5, p6, p7⟩ := HK.out _ _ hb' (by simpa using hbW) (by simpa using ⟨⟨d0, d1, d2, d3⟩, f0, f1, f2, f3⟩)))
          all_goals
            go_wp2
            go_meet
            case rel => exact ⟨by rw [HER.out], (Below.refl _ _).drew.trans hb'⟩
      case rest =>
        obtain ⟨rfl, HBc⟩ := hcut
        have HBw : Hid (Below w.heap.size w wc) := HB.out.trans (HBc.out.mono HB.out.size)
        obtain ⟨f0, f1, f2, f3⟩ := HY.out.below HBw.out hb
        simp only at f0 f1 f2 f3
        have HA : Hid (chkAt l k = if 0 < k ∧ ¬ cmpB (l.getD (k - 1) bl0) ⟨y0, y1, y2, y3⟩ < 0 then 5 else if ¬ (-1000000000000000000 ≤ y3 ∧ y3 ≤ 1000000000000000000) then 1 else if y3 = 0 then 3 else 0) := by
          unfold chkAt
          rw [HYY.out]
          exact rfl
        have HRet : Hid (∀ c, c ≠ 0 → chkAt l k = c → res = c) := fun c h0 h1 => by
          rw [← Hres.out, chkTo_first H0.out (by rw [h1]; exact h0) hlt, h1]
        clear HBc HB HC HYY HL HY
        by_cases c1 : 0 < k ∧ ¬ cmpB (l.getD (k - 1) bl0) ⟨y0, y1, y2, y3⟩ < 0
        · have e5 : res = 5 := HRet.out 5 (by decide) (by rw [HA.out, if_pos c1])
          rw [decide_eq_true c1]
          subst e5
          clear HA HRet c1 Hres
          go_wp2
          go_ret
          exact ⟨rfl, HBw.out⟩
        · rw [decide_eq_false c1]
          by_cases c2 : -1000000000000000000 ≤ y3 ∧ y3 ≤ 1000000000000000000
          · have c2a : ¬ y3 < -1000000000000000000 := by omega
            have c2b : ¬ 1000000000000000000 < y3 := by omega
            by_cases c3 : y3 = 0
            · have e5 : res = 3 := HRet.out 3 (by decide) (by rw [HA.out, if_neg c1, if_neg (by simpa using c2), if_pos c3])
              subst e5
              subst c3
              clear HA HRet c1 Hres c2
              go_wp2
              go_ret
              exact ⟨rfl, HBw.out⟩
            · have e0 : chkTo l (k + 1) = 0 := by
                unfold chkTo
                rw [if_neg (by simp [H0.out]), HA.out, if_neg c1, if_neg (by simpa using c2), if_neg c3]
              have HE : Hid (chkTo l (k + 1) = 0) := e0
              have c3' : (y3 == 0) = false := by rw [beq_eq_false_iff_ne]; exact c3
              clear HA HRet c1 e0 c2
              go_wp2
              go_roundw
              case rel => exact ⟨k + 1, by omega, by go_num, HE, HBw⟩
              case measure => simp [RowKit.intOf]; omega
          · have e5 : res = 1 := HRet.out 1 (by decide) (by rw [HA.out, if_neg c1, if_pos c2])
            subst e5
            clear HA HRet c1 Hres
            by_cases c2a : y3 < -1000000000000000000
            · clear c2
              go_wp2
              go_ret
              exact ⟨rfl, HBw.out⟩
            · have c2b : 1000000000000000000 < y3 := by omega
              clear c2
              go_wp2
              go_ret
              exact ⟨rfl, HBw.out⟩
    · have hk2 : k = l.length := by omega
      subst hk2
      have e5 : res = 0 := by rw [← Hres.out, H0.out]
      subst e5
      clear Hres
      go_wp2
      go_ret
      exact ⟨rfl, HB.out⟩
end Go.Proofs.YtagimpmefodaeaaGreatDoor

namespace Go.Proofs.YtagimpmefodaeaaGreatDoor
set_option linter.unusedVariables false
set_option linter.unusedSimpArgs false
set_option maxRecDepth 100000
open Go.RowKit Go.Lib

theorem find_hit {p : Bl → Bool} {b : List Bl} {k : Nat} (h : (b.take k).find? p = none) (hk : k < b.length) (hp : p (b.getD k bl0) = true) : b.find? p = some (b.getD k bl0) := by
  have e : b = b.take k ++ b.getD k bl0 :: b.drop (k + 1) := by rw [← bls_drop b k hk, List.take_append_drop]
  generalize b.getD k bl0 = x at *
  rw [e, List.find?_append, h, List.find?_cons_of_pos hp]
  rfl
theorem find_miss {p : Bl → Bool} {b : List Bl} {k : Nat} (h : (b.take k).find? p = none) (hk : k < b.length) (hp : p (b.getD k bl0) = false) : (b.take (k + 1)).find? p = none := by
  rw [bls_take b k hk, List.find?_append, h, List.find?_cons_of_neg (by rw [hp]; simp)]
  rfl
set_option maxHeartbeats 4000000 in
theorem refGet_any (a : Option Addr) (cap : Nat) (b : List Bl) (en : Int) (acc cur : ByteArray) (w : World) (hlen : (b.length : Int) ≤ 9223372036854775807) (h : IsBl w a b cap) :
    Calls Tryz.prog 24 #[.slice a b.length cap, .int .i64 en, .string acc, .string cur] w fun e w' => e = .returned (.int .i64 (getB b en acc cur)) ∧ w' = w := by
  have HH : Hid (IsBl w a b cap) := h
  obtain ⟨res, hres⟩ : ∃ res, getB b en acc cur = res := ⟨_, rfl⟩
  have Hres : Hid (getB b en acc cur = res) := hres
  rw [hres]
  clear hres h
  go_enter Tryz.func24, Tryz.ntmps24
  go_wp2
  go_loop [9] (fun i => ∃ k : Nat, k ≤ b.length ∧ i = .int .i64 k ∧ Hid ((b.take k).find? (hasB en acc cur) = none)) (fun i => b.length - (RowKit.intOf i).toNat)
  case atStart => exact ⟨0, Nat.zero_le _, rfl, rfl⟩
  case round =>
    obtain ⟨k, hk, rfl, H⟩ := hrel
    by_cases hlt : k < b.length
    · obtain ⟨bb, off, e, hb, hc⟩ := HH.out.some hlt
      subst e
      have hy : BlAt w bb (off + k * 4) (b.getD k bl0) := hc k hlt
      have HHit : Hid (hasB en acc cur (b.getD k bl0) = true → res = (b.getD k bl0).amt) := fun hp => by
        rw [← Hres.out]; unfold getB; rw [find_hit H.out hlt hp]; rfl
      have HMiss : Hid (hasB en acc cur (b.getD k bl0) = false → (b.take (k + 1)).find? (hasB en acc cur) = none) := fun hp => find_miss H.out hlt hp
      clear hc H
      generalize b.getD k bl0 = y at *
      obtain ⟨y0, y1, y2, y3⟩ := y
      obtain ⟨d0, d1, d2, d3⟩ := hy
      simp only at d0 d1 d2 d3
      have i0 : (0 : Int) ≤ k := by omega
      have i1 : (k : Int) < b.length := by omega
      by_cases c1 : y0 = en
      · subst c1
        by_cases c2 : y1 = acc
        · subst c2
          by_cases c3 : y2 = cur
          · subst c3
            have er : res = y3 := HHit.out (by simp [hasB])
            subst er
            clear HHit HMiss
            go_wp2
            go_ret
            exact ⟨rfl, rfl⟩
          · have c3' := ch_ne c3
            have HN : Hid _ := HMiss.out (by simp [hasB, c3])
            clear HHit HMiss
            go_wp2
            go_round
            case rel => exact ⟨k + 1, by omega, by go_num, HN⟩
            case measure => simp [RowKit.intOf]; omega
        · have c2' := ch_ne c2
          have HN : Hid _ := HMiss.out (by simp [hasB, c2])
          clear HHit HMiss
          go_wp2
          go_round
          case rel => exact ⟨k + 1, by omega, by go_num, HN⟩
          case measure => simp [RowKit.intOf]; omega
      · have c1' : (y0 == en) = false := by rw [beq_eq_false_iff_ne]; exact c1
        have HN : Hid _ := HMiss.out (by simp [hasB, c1])
        clear HHit HMiss
        go_wp2
        go_round
        case rel => exact ⟨k + 1, by omega, by go_num, HN⟩
        case measure => simp [RowKit.intOf]; omega
    · have ek : k = b.length := by omega
      subst ek
      have er : res = 0 := by
        have := H.out
        rw [List.take_length] at this
        rw [← Hres.out]; unfold getB; rw [this]; rfl
      subst er
      clear H
      go_wp2
      go_ret
      exact ⟨rfl, rfl⟩
end Go.Proofs.YtagimpmefodaeaaGreatDoor

namespace Go.Proofs.YtagimpmefodaeaaGreatDoor
open Go
set_option linter.unusedVariables false

section
variable {P : Program} {ops : Array Oper} {Q : Exit → Act → World → Prop} {md : Region.Mode} {T : World → Prop} {g m : Nat}

theorem L_first2 {i : Nat} {oi om og : Oper} {v : Value} (hi : ops[i]? = some oi) (hmo : ops[m]? = some om) (hgo : ops[g]? = some og) (hwm : ∃ e ∈ om.after, Region.binds md e = true ∧ e.on = i) (hwg : ∃ e ∈ og.after, Region.binds md e = true ∧ e.on = m) (hgi : g ≠ i)
    (hsel : ∀ (j : Nat) (o : Oper) cs b, ops[j]? = some o → o.op ≠ .select cs b) (hQ : ∀ c a w, Q (.panic c) (a.put oi.dst v) w → Q (.panic c) a w) :
    ∀ (fuel : Nat) (listed : Array Bool) (a : Act) (w : World),
      (∀ j oj, ops[j]? = some oj → j ≠ i → listed.getD j true = false → (∀ e ∈ oj.after, Region.binds md e = true → e.on ≠ i) → oi.apart ops oj = true) →
      i ∈ Region.ready md ops listed → listed.getD g true = false → listed.getD m true = false → YieldsIf P ops T oi v a → T w →
      wpAnyL P md ops Q g T fuel (listed.setIfInBounds i true) (a.put oi.dst v) w → wpAnyL P md ops Q g T (fuel + 1) listed a w := by
  have unl : ∀ (listed : Array Bool) (k : Nat), listed.getD k true = false → listed[k]? ≠ some true := fun listed k h h' => by
    rcases Nat.lt_or_ge k listed.size with h1 | h1
    · simp [h1] at h h'; rw [h] at h'; cases h'
    · simp [Array.getElem?_eq_none h1] at h'
  intro fuel
  induction fuel with
  | zero =>
    intro listed a w _ hr _ _ hy hT H
    refine ⟨fun h => (by rw [h] at hr; cases hr), fun j hj => ?_⟩
    by_cases hji : j = i
    · subst hji; exact hy.wpOp hi hT ⟨fun _ => hT, H⟩
    · have := ready_mono hj hji
      rw [H.1] at this
      cases this
  | succ fuel ih =>
    intro listed a w hfree hr hlg hlm hy hT H
    refine ⟨fun h => (by rw [h] at hr; cases hr), fun j hj => ?_⟩
    by_cases hji : j = i
    · subst hji; exact hy.wpOp hi hT ⟨fun _ => hT, H⟩
    · have h1 := H.2 j (ready_mono hj hji)
      obtain ⟨hjun, oj, hoj, hall⟩ := mem_ready.1 hj
      have hnot : ∀ e ∈ oj.after, Region.binds md e = true → e.on ≠ i := fun e he hb heq => by
        have h1 := hall e he hb
        have h0 := (mem_ready.1 hr).1
        rw [heq] at h1
        rcases Nat.lt_or_ge i listed.size with h' | h'
        · simp [h'] at h0 h1; rw [h0] at h1; cases h1
        · simp [Array.getElem?_eq_none h'] at h1
      have hjg : j ≠ g := by
        rintro rfl
        obtain ⟨e, he, hb, heq⟩ := hwg
        rw [hgo] at hoj
        cases hoj
        have h1 := hall e he hb
        rw [heq] at h1
        rcases Nat.lt_or_ge m listed.size with h' | h'
        · simp [h'] at hlm h1; rw [hlm] at h1; cases h1
        · simp [Array.getElem?_eq_none h'] at h1
      have hjm : j ≠ m := by
        rintro rfl
        obtain ⟨e, he, hb, heq⟩ := hwm
        rw [hmo] at hoj
        cases hoj
        exact hnot e he hb heq
      have h2 := wpOp_putIf hoj (hfree j oj hoj hji hjun hnot) (fun cs b => hsel i oi cs b hi) (fun cs b => hsel j oj cs b hoj) hQ hy h1
      have hfree' : ∀ k ok, ops[k]? = some ok → k ≠ i → (listed.setIfInBounds j true).getD k true = false →
          (∀ e ∈ ok.after, Region.binds md e = true → e.on ≠ i) → oi.apart ops ok = true := fun k ok hk hki hun hno => by
        refine hfree k ok hk hki ?_ hno
        by_cases hjk : j = k
        · subst hjk; exact hjun
        · rw [getD_set_ne true hjk] at hun; exact hun
      have hlg' : (listed.setIfInBounds j true).getD g true = false := by rw [getD_set_ne true hjg]; exact hlg
      have hlm' : (listed.setIfInBounds j true).getD m true = false := by rw [getD_set_ne true hjm]; exact hlm
      refine wpOp_mono (fun a' w' h3 => ?_) h2
      have hT' : T w' := h3.2.1 (by rw [getD_set_ne true hjg, getD_set_ne true (Ne.symm hgi)]; exact hlg)
      refine ⟨fun _ => hT', ih (listed.setIfInBounds j true) a' w' hfree' (ready_mono hr (Ne.symm hji)) hlg' hlm' h3.1 hT' ?_⟩
      rw [Array.setIfInBounds_comm _ _ hji]
      exact h3.2.2

/-- The move of a walk. -/
theorem L_take2 {i : Nat} {oi om og : Oper} {v : Value} {fuel : Nat} {listed : Array Bool} {a : Act} {w : World} (hi : ops[i]? = some oi) (hmo : ops[m]? = some om) (hgo : ops[g]? = some og)
    (hwm : (om.after.any fun e => Region.binds md e && e.on == i) = true) (hwg : (og.after.any fun e => Region.binds md e && e.on == m) = true) (hgi : g ≠ i)
    (hs : Region.noSelect ops = true) (hf : Region.free md ops listed i = true) (hr : (Region.ready md ops listed).contains i = true) (hlg : listed.getD g true = false) (hlm : listed.getD m true = false)
    (hQ : ∀ c a w, Q (.panic c) (a.put oi.dst v) w → Q (.panic c) a w) (hy : YieldsIf P ops T oi v a) (hT : T w)
    (h : wpAnyL P md ops Q g T fuel (listed.setIfInBounds i true) (a.put oi.dst v) w) : wpAnyL P md ops Q g T (fuel + 1) listed a w := by
  have any : ∀ (o : Oper) (k : Nat), (o.after.any fun e => Region.binds md e && e.on == k) = true → ∃ e ∈ o.after, Region.binds md e = true ∧ e.on = k := fun o k hw => by
    rw [Array.any_eq_true] at hw
    obtain ⟨q, hq, he⟩ := hw
    simp only [Bool.and_eq_true, beq_iff_eq] at he
    exact ⟨o.after[q], Array.getElem_mem hq, he.1, he.2⟩
  exact L_first2 hi hmo hgo (any om i hwm) (any og m hwg) hgi (Region.noSelect_spec hs) hQ fuel listed a w (Region.free_spec hi hf) (by simpa using hr) hlg hlm hy hT h

/-- The only one that may come up: what it leaves meets the condition. -/
theorem L_one {i fuel : Nat} {listed : Array Bool} {a : Act} {w : World} (hr : Region.ready md ops listed = [i])
    (h : wpOp P ops Q i (fun a' w' => T w' ∧ wpAnyL P md ops Q g T fuel (listed.setIfInBounds i true) a' w') a w) : wpAnyL P md ops Q g T (fuel + 1) listed a w := by
  refine ⟨(fun h0 => by rw [hr] at h0; simp at h0), fun j hj => ?_⟩
  rw [hr] at hj
  obtain rfl := List.mem_singleton.1 hj
  exact wpOp_mono (fun a' w' h' => ⟨fun _ => h'.1, h'.2⟩) h
/-- One of two may come up: whichever it is, what it leaves meets the condition. -/
theorem L_two {i j fuel : Nat} {listed : Array Bool} {a : Act} {w : World} (hr : Region.ready md ops listed = [i, j])
    (h1 : wpOp P ops Q i (fun a' w' => T w' ∧ wpAnyL P md ops Q g T fuel (listed.setIfInBounds i true) a' w') a w)
    (h2 : wpOp P ops Q j (fun a' w' => T w' ∧ wpAnyL P md ops Q g T fuel (listed.setIfInBounds j true) a' w') a w) : wpAnyL P md ops Q g T (fuel + 1) listed a w := by
  refine ⟨(fun h0 => by rw [hr] at h0; simp at h0), fun k hk => ?_⟩
  rw [hr] at hk
  rcases List.mem_cons.1 hk with rfl | hk
  · exact wpOp_mono (fun a' w' h' => ⟨fun _ => h'.1, h'.2⟩) h1
  · obtain rfl := List.mem_singleton.1 hk
    exact wpOp_mono (fun a' w' h' => ⟨fun _ => h'.1, h'.2⟩) h2
end
end Go.Proofs.YtagimpmefodaeaaGreatDoor
