/-
  The contracts of quarterdaybig's length, and of Uint64 and Int64: how long a number is, and its low words.
-/
import Derived.Test.YtphlcjghcffnbaaDoorBig3
namespace Go.Proofs.YtphlcjghcffnbaaDoor
set_option linter.unusedVariables false
open Go.RowKit Big

/-- How long a number is, in bits. -/
def Bits (n L : Nat) : Prop := (n = 0 ∧ L = 0) ∨ (1 ≤ L ∧ 2 ^ (L - 1) ≤ n ∧ n < 2 ^ L)

theorem pow32 (k : Nat) : 4294967296 ^ k = 2 ^ (32 * k) := by
  rw [Nat.pow_mul]

theorem bits_words {l : List Nat} (ho : Ok l) (h0 : 0 < l.length) (k : Nat) (hk : 1 ≤ k) (h1 : 2 ^ (k - 1) ≤ l.getD (l.length - 1) 0) (h2 : l.getD (l.length - 1) 0 < 2 ^ k) : Bits (val l) ((l.length - 1) * 32 + k) := by
  have e := val_take_succ l (l.length - 1) (by omega)
  rw [Nat.sub_add_cancel h0, List.take_length] at e
  have hlt := val_lt (ok_take ho (l.length - 1))
  rw [List.length_take, Nat.min_eq_left (by omega)] at hlt
  right
  refine ⟨by omega, ?_, ?_⟩
  · rw [show (l.length - 1) * 32 + k - 1 = 32 * (l.length - 1) + (k - 1) by omega, Nat.pow_add, ← pow32, e]
    have := Nat.mul_le_mul_left (4294967296 ^ (l.length - 1)) h1
    omega
  · rw [show (l.length - 1) * 32 + k = 32 * (l.length - 1) + k by omega, Nat.pow_add, ← pow32, e]
    have := Nat.mul_le_mul_left (4294967296 ^ (l.length - 1)) (Nat.succ_le_of_lt h2)
    rw [Nat.succ_eq_add_one, Nat.mul_add, Nat.mul_one] at this
    omega

theorem half_step (x k t : Nat) (h : t = x / 2 ^ k) : t / 2 = x / 2 ^ (k + 1) := by rw [h, Nat.div_div_eq_div_mul, Nat.pow_succ]

set_option maxHeartbeats 1000000 in
theorem length_any (v : Value) (l : List Nat) (w : World) (h : Wd w v l) (hn : Nrm l) (hl : l.length < 35184372088832) :
    Calls Tryd.prog 46 #[v] w fun e w' => (∃ L : Nat, e = .returned (.int .i64 L) ∧ Bits (val l) L) ∧ w' = w := by
  have ho := h.ok
  rcases h.at_ with ⟨h0, a, cap, hv⟩ | ⟨h0, b, off, cap, hv, hb, hcap, hc⟩
  · subst h0; subst hv
    go_enter Tryd.func46, Tryd.ntmps46
    go_wp2
    go_ret
    exact ⟨⟨0, rfl, .inl ⟨rfl, rfl⟩⟩, rfl⟩
  · subst hv
    obtain ⟨j, hj⟩ : ∃ j, l.length = j + 1 := ⟨l.length - 1, by omega⟩
    have hcj := hc j (by omega)
    have hx0 : l.getD j 0 ≠ 0 := by
      rcases hn with hn | hn
      · omega
      · rw [hj] at hn; exact hn
    have hx1 := ho j (by omega)
    have W := fun k hk h1 h2 => bits_words ho h0 k hk h1 h2
    rw [hj, Nat.add_sub_cancel] at W
    rw [hj]
    generalize l.getD j 0 = x at *
    have HW : Hid (∀ k, 1 ≤ k → 2 ^ (k - 1) ≤ x → x < 2 ^ k → Bits (val l) (j * 32 + k)) := W
    have hne : ((j : Int) + 1 == 0) = false := by simp; omega
    have hj2 : (j : Int) < 35184372088832 := by omega
    have Hj : Hid (l.length = j + 1) := hj
    clear hc hn W h ho hj hcap
    go_enter Tryd.func46, Tryd.ntmps46
    go_wp2
    go_loop [3, 4] (fun tn tt => ∃ k t : Nat, k ≤ 32 ∧ (t : Int) < 4294967296 ∧ tn = .int .i64 k ∧ tt = .int .u32 t ∧ Hid (t = x / 2 ^ k ∧ (1 ≤ k → 2 ^ (k - 1) ≤ x))) (fun _ tt => (intOf tt).toNat)
    case atStart => exact ⟨0, x, by omega, by omega, rfl, rfl, by simp, fun h => by omega⟩
    case round =>
      obtain ⟨k, t, hk, ht, rfl, rfl, Hk⟩ := hrel
      by_cases hz : t = 0
      · subst hz
        have R : Hid (Bits (val l) (j * 32 + k)) := by
          have h1 := Hk.out.1.symm
          have h2 : x < 2 ^ k := by
            rcases Nat.div_eq_zero_iff.1 h1 with h | h
            · have := Nat.two_pow_pos k; omega
            · exact h
          have hk1 : 1 ≤ k := by
            rcases Nat.eq_zero_or_pos k with rfl | h
            · simp at h2; omega
            · exact h
          exact HW.out k hk1 (Hk.out.2 hk1) h2
        clear Hk HW
        go_wp2
        go_ret
        exact ⟨⟨j * 32 + k, by go_num, R.out⟩, rfl⟩
      · have t1 : ((t : Int) != 0) = true := by simp; omega
        have hk32 : k < 32 := by
          apply Classical.byContradiction
          intro hn
          have h1 := Hk.out.1
          have hk' : k = 32 := by omega
          subst hk'
          rw [Nat.div_eq_of_lt (by omega)] at h1
          exact hz h1
        have R : Hid (t / 2 = x / 2 ^ (k + 1) ∧ (1 ≤ k + 1 → 2 ^ (k + 1 - 1) ≤ x)) := by
          refine ⟨half_step x k t Hk.out.1, fun _ => ?_⟩
          rw [Nat.add_sub_cancel]
          apply Classical.byContradiction
          intro hn
          exact hz (by rw [Hk.out.1]; exact Nat.div_eq_of_lt (by omega))
        have e2 : (t : Int) / 2 = ((t / 2 : Nat) : Int) := by omega
        have h5 : t / 2 < t := by omega
        have h6 : (t / 2 : Nat) < 4294967296 := by omega
        generalize hq : t / 2 = q at *
        clear Hk HW hq
        go_wp2
        go_round
        case rel => exact ⟨k + 1, q, by omega, by omega, by go_num, rfl, R⟩
        case measure => simp [intOf]; omega
end Go.Proofs.YtphlcjghcffnbaaDoor
