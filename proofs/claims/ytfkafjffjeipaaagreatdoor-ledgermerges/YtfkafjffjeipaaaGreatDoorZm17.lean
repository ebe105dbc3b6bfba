/-
  The contracts of errors.As at a target of type *api.Errno, of plain.Told and of daysame.Error: what is told of nil, and of an api.Errno.
-/
import Derived.Test.YtfkafjffjeipaaaGreatDoorZm16
import Derived.Test.YtfkafjffjeipaaaGreatDoorZm5
import Derived.Test.YtfkafjffjeipaaaGreatDoorZm14
import Derived.Test.YtfkafjffjeipaaaGreatDoorProg
import Derived.WalkKit
import Derived.WalkSpells
import Derived.LaidEql
import Derived.Stop.Asserts
import Derived.RowKitTokens
import Derived.Below
namespace Go.Proofs.YtfkafjffjeipaaaGreatDoor
set_option linter.unusedVariables false
open Go.RowKit Big

theorem bit_i (v : Value) (l : List Nat) (i : Nat) (w : World) (h : Wd w v l) (hk : i / 32 < l.length) (hl : l.length < 35184372088832) :
    Calls Tryz.prog 97 #[v, .int .i64 (i : Int)] w fun e w' => e = .returned (.int .u64 (bitOf (val l) i)) ∧ w' = w := by
  have := bit_any v l (i / 32) (i % 32) w h (by omega) hk hl
  rw [show 32 * (i / 32) + i % 32 = i by omega] at this
  exact this

theorem top_bit (n : Nat) (h1 : 9223372036854775808 ≤ n) (h2 : n < 18446744073709551616) : bitOf n 63 = 1 := by
  unfold bitOf
  have : n / 2 ^ 63 = 1 := by
    apply Nat.div_eq_of_lt_le <;> omega
  rw [this]

theorem bit01 (n i : Nat) : bitOf n i = 0 ∨ bitOf n i = 1 := by unfold bitOf; omega

theorem len_two {l : List Nat} (ho : Ok l) (hn : Nrm l) (h2 : val l < 18446744073709551616) : l.length ≤ 2 := by
  rcases Nat.eq_zero_or_pos l.length with h0 | h0
  · omega
  · have h3 := val_ge hn h0
    apply Classical.byContradiction
    intro hc
    have : 4294967296 ^ 2 ≤ 4294967296 ^ (l.length - 1) := Nat.pow_le_pow_right (by omega) (by omega)
    omega
theorem len_two' {l : List Nat} (ho : Ok l) (h1 : 9223372036854775808 ≤ val l) : 2 ≤ l.length := by
  have h3 := val_lt ho
  apply Classical.byContradiction
  intro hc
  have : 4294967296 ^ l.length ≤ 4294967296 ^ 1 := Nat.pow_le_pow_right (by omega) (by omega)
  omega

set_option maxHeartbeats 1000000 in
theorem tzb_any (p : Nat) (neg : Bool) (v : Value) (l : List Nat) (w : World) (h : IsBig w p neg v l) (h1 : 9223372036854775808 ≤ val l) (h2 : val l < 18446744073709551616) :
    Calls Tryz.prog 83 #[.pointer (some ⟨p, 0, none⟩)] w fun e w' => (∃ i : Nat, e = .returned (.int .u64 i) ∧ i ≤ 63 ∧ (i = 63 ↔ val l = 9223372036854775808)) ∧ w' = w := by
  have c1 := blk_cell1 h.blk
  have l1 := len_two h.wd.ok h.nrm h2
  have l2 := len_two' h.wd.ok h1
  obtain ⟨a, cap, hv⟩ := h.wd.slice
  have hlen : l.length = 2 := by omega
  rw [hlen] at hv
  subst hv
  have H : Hid (Wd w (.slice a 2 cap) l) := h.wd
  have Hl : Hid (l.length = 2) := hlen
  have F : Hid (∀ i, (∀ k, k < i → bitOf (val l) k = 0) → bitOf (val l) i = 1 → i ≤ 63 ∧ (i = 63 ↔ val l = 9223372036854775808)) := fun i hz hi => tz_facts (val l) i h1 h2 hz hi
  have Top : Hid (bitOf (val l) 63 = 1) := top_bit _ h1 h2
  clear h h1 h2 l1 l2 hlen
  generalize hn : val l = n at *
  have Hn : Hid (val l = n) := hn
  clear hn
  go_enter Tryz.func83, Tryz.ntmps83
  go_wp2
  go_loop [3] (fun tn => ∃ i : Nat, (i : Int) ≤ 63 ∧ tn = .int .u64 i ∧ Hid (∀ k, k < i → bitOf n k = 0)) (fun tn => 64 - (intOf tn).toNat)
  case atStart => exact ⟨0, by omega, rfl, fun k hk => by omega⟩
  case round =>
    obtain ⟨i, hi, rfl, Hz⟩ := hrel
    go_wp2_with fail
    refine (bit_i _ l i w H.out (by have := Hl.out; omega) (by have := Hl.out; omega)).mono ?_
    rintro e w' ⟨rfl, hw⟩
    rw [hw, Hn.out]; clear hw w'
    rcases bit01 n i with hb | hb
    · rw [hb]
      have R : Hid (i + 1 ≤ 63 ∧ ∀ k, k < i + 1 → bitOf n k = 0) := by
        have hz : ∀ k, k < i + 1 → bitOf n k = 0 := fun k hk => by
          rcases Nat.lt_or_ge k i with h | h
          · exact Hz.out k h
          · rw [show k = i by omega]; exact hb
        refine ⟨?_, hz⟩
        apply Classical.byContradiction
        intro hc
        have hi63 : i = 63 := by omega
        subst hi63
        have := Top.out
        omega
      clear hb Hz F
      go_wp2
      go_round
      case rel => exact ⟨i + 1, by have := R.out.1; omega, by go_num, R.out.2⟩
      case measure => simp [intOf]; omega
    · rw [hb]
      have R : Hid (i ≤ 63 ∧ (i = 63 ↔ n = 9223372036854775808)) := F.out i Hz.out hb
      clear hb Hz F
      go_wp2
      go_ret
      exact ⟨⟨i, rfl, R.out.1, R.out.2⟩, rfl⟩

/-- Is it of 64 bits? -/
def Fits (x : Int) : Prop := -9223372036854775808 ≤ x ∧ x ≤ 9223372036854775807

set_option maxHeartbeats 1000000 in
theorem isInt64_any (p : Nat) (neg : Bool) (v : Value) (l : List Nat) (w : World) (h : IsBig w p neg v l) (hl : l.length < 35184372088832) :
    Calls Tryz.prog 59 #[.pointer (some ⟨p, 0, none⟩)] w fun e w' => (∃ b : Bool, e = .returned (.bool b) ∧ (b = true ↔ Fits (sg neg (val l)))) ∧ w' = w := by
  have c0 := blk_cell0 h.blk
  have c1 := blk_cell1 h.blk
  have H : Hid (IsBig w p neg v l) := h
  clear h
  generalize hn : val l = n at *
  have Hn : Hid (val l = n) := hn
  clear hn
  go_enter Tryz.func59, Tryz.ntmps59
  go_wp2_with fail
  refine (length_any v l w H.out.wd H.out.nrm hl).mono ?_
  rintro e w' ⟨⟨L, rfl, hB⟩, hw⟩
  rw [hw]; clear hw w'
  rw [Hn.out] at hB
  have HB : Hid (Bits n L) := hB
  clear hB
  rcases Nat.lt_trichotomy L 64 with hL | hL | hL
  · have R : Hid (Fits (sg neg n)) := by
      have hlt : n < 9223372036854775808 := by
        rcases HB.out with ⟨h, _⟩ | ⟨h1, _, h2⟩
        · omega
        · have : 2 ^ L ≤ 2 ^ 63 := Nat.pow_le_pow_right (by omega) (by omega)
          omega
      unfold Hid Fits sg; cases neg <;> simp <;> omega
    have t1 : (L : Int) < 64 := by omega
    clear HB
    go_wp2
    go_ret
    exact ⟨⟨true, rfl, fun _ => R.out, fun _ => rfl⟩, rfl⟩
  · subst hL
    have h12 : Hid (9223372036854775808 ≤ n ∧ n < 18446744073709551616) := by
      rcases HB.out with ⟨_, h⟩ | ⟨_, h1, h2⟩
      · omega
      · exact ⟨h1, h2⟩
    clear HB
    cases neg
    · have R : Hid (¬ Fits (sg false n)) := by
        have := h12.out
        unfold Hid Fits sg; simp; omega
      go_wp2
      go_ret
      exact ⟨⟨false, rfl, fun h => by simp at h, fun h => absurd h R.out⟩, rfl⟩
    · go_wp2_with fail
      refine (tzb_any p true v l w H.out (by rw [Hn.out]; exact h12.out.1) (by rw [Hn.out]; exact h12.out.2)).mono ?_
      rintro e w' ⟨⟨i, rfl, hi, hiff⟩, hw⟩
      rw [hw]; clear hw w'
      rw [Hn.out] at hiff
      have R : Hid (((i : Int) == 63) = true ↔ Fits (sg true n)) := by
        have := h12.out
        unfold Hid Fits sg
        simp
        omega
      clear hiff
      go_wp2
      go_ret
      exact ⟨⟨_, rfl, R.out⟩, rfl⟩
  · have R : Hid (¬ Fits (sg neg n)) := by
      have hge : 18446744073709551616 ≤ n := by
        rcases HB.out with ⟨_, h⟩ | ⟨h1, h2, _⟩
        · omega
        · have : 2 ^ 64 ≤ 2 ^ (L - 1) := Nat.pow_le_pow_right (by omega) (by omega)
          omega
      unfold Hid Fits sg; cases neg <;> simp <;> omega
    have t1 : ¬ ((L : Int) < 64) := by omega
    have t2 : ((L : Int) == 64) = false := by simp; omega
    clear HB
    go_wp2
    go_ret
    refine ⟨⟨false, ?_, fun h => by simp at h, fun h => absurd h R.out⟩, rfl⟩
    simp
    omega

theorem small_yes (p : Nat) (neg : Bool) (v : Value) (l : List Nat) (w : World) (h : IsBig w p neg v l) (hl : l.length < 35184372088832) (hf : Fits (sg neg (val l))) :
    Calls Tryz.prog 43 #[.pointer (some ⟨p, 0, none⟩)] w fun e w' => e = .returned (.tuple #[.int .i64 (sg neg (val l)), .int .i64 0]) ∧ w' = w := by
  have H : Hid (IsBig w p neg v l) := h
  have Hf : Hid (Fits (sg neg (val l))) := hf
  have h2 : l.length ≤ 2 := len_two h.wd.ok h.nrm (by
    unfold Fits sg at hf; cases neg <;> simp at hf <;> omega)
  clear h hf
  generalize hx : sg neg (val l) = x at *
  have Hx : Hid (sg neg (val l) = x) := hx
  clear hx
  go_enter Tryz.func43, Tryz.ntmps43
  go_wp2_with fail
  refine (isInt64_any p neg v l w H.out hl).mono ?_
  rintro e w' ⟨⟨b, rfl, hb⟩, hw⟩
  rw [hw]; clear hw w'
  obtain rfl : b = true := hb.2 (by rw [Hx.out]; exact Hf.out)
  clear hb
  go_wp2_with fail
  refine (int64_any p neg v l w H.out h2 (by rw [Hx.out]; exact Hf.out.1) (by rw [Hx.out]; exact Hf.out.2)).mono ?_
  rintro e w' ⟨rfl, hw⟩
  rw [hw, Hx.out]; clear hw w'
  go_wp2
  go_ret2
  exact ⟨rfl, rfl⟩

theorem small_no (p : Nat) (neg : Bool) (v : Value) (l : List Nat) (w : World) (h : IsBig w p neg v l) (hl : l.length < 35184372088832) (hf : ¬ Fits (sg neg (val l))) :
    Calls Tryz.prog 43 #[.pointer (some ⟨p, 0, none⟩)] w fun e w' => e = .returned (.tuple #[.int .i64 0, .int .i64 10]) ∧ w' = w := by
  have H : Hid (IsBig w p neg v l) := h
  have Hf : Hid (¬ Fits (sg neg (val l))) := hf
  clear h hf
  go_enter Tryz.func43, Tryz.ntmps43
  go_wp2_with fail
  refine (isInt64_any p neg v l w H.out hl).mono ?_
  rintro e w' ⟨⟨b, rfl, hb⟩, hw⟩
  rw [hw]; clear hw w'
  obtain rfl : b = false := by
    cases b
    · rfl
    · exact absurd (hb.1 rfl) Hf.out
  clear hb
  go_wp2
  go_ret2
  exact ⟨rfl, rfl⟩
end Go.Proofs.YtfkafjffjeipaaaGreatDoor

namespace Go.Proofs.YtfkafjffjeipaaaGreatDoor
set_option linter.unusedVariables false
open Go.RowKit Big

theorem few_words {neg : Bool} {l : List Nat} (hn : Nrm l) (h1 : -340282366920938463463374607431768211456 < sg neg (val l)) (h2 : sg neg (val l) < 340282366920938463463374607431768211456) : l.length < 1000000 := by
  have hv : val l < 4294967296 ^ 4 := by
    have : (val l : Int) < 340282366920938463463374607431768211456 := by unfold sg at *; cases neg <;> simp at h1 h2 <;> omega
    have e : (4294967296 : Nat) ^ 4 = 340282366920938463463374607431768211456 := by decide
    rw [e]; omega
  rcases Nat.eq_zero_or_pos l.length with h0 | h0
  · omega
  · have h3 := val_ge hn h0
    apply Classical.byContradiction
    intro hc
    have : 4294967296 ^ 4 ≤ 4294967296 ^ (l.length - 1) := Nat.pow_le_pow_right (by omega) (by omega)
    omega

/-- The sum, or 0; 0, or the fault's number. -/
def rV (s : Int) : Int := if -9223372036854775808 ≤ s ∧ s ≤ 9223372036854775807 then s else 0
def rE (s : Int) : Int := if -9223372036854775808 ≤ s ∧ s ≤ 9223372036854775807 then 0 else 10

/-- dayref1.Small, either way. -/
theorem small_any (p : Nat) (x : Int) (w : World) (h : BigIs w p x) (h1 : -340282366920938463463374607431768211456 < x) (h2 : x < 340282366920938463463374607431768211456) :
    Calls Tryz.prog 43 #[.pointer (some ⟨p, 0, none⟩)] w fun e w' => e = .returned (.tuple #[.int .i64 (rV x), .int .i64 (rE x)]) ∧ w' = w := by
  obtain ⟨neg, v, l, hb, rfl⟩ := h
  by_cases hf : Fits (sg neg (val l))
  · have e : rV (sg neg (val l)) = sg neg (val l) ∧ rE (sg neg (val l)) = 0 := by unfold rV rE; exact ⟨if_pos hf, if_pos hf⟩
    rw [e.1, e.2]
    exact small_yes p neg v l w hb (Nat.lt_trans (few_words hb.nrm h1 h2) (by decide)) hf
  · have e : rV (sg neg (val l)) = 0 ∧ rE (sg neg (val l)) = 10 := by unfold rV rE; exact ⟨if_neg hf, if_neg hf⟩
    rw [e.1, e.2]
    exact small_no p neg v l w hb (Nat.lt_trans (few_words hb.nrm h1 h2) (by decide)) hf

/-- x.Add(x, y), by the numbers. -/
theorem addTo_any (px py : Nat) (x y : Int) (w : World) (hx : BigIs w px x) (hy : BigIs w py y) (bx : -340282366920938463463374607431768211456 < x ∧ x < 340282366920938463463374607431768211456) (by_ : -340282366920938463463374607431768211456 < y ∧ y < 340282366920938463463374607431768211456) :
    Calls Tryz.prog 42 #[.pointer (some ⟨px, 0, none⟩), .pointer (some ⟨px, 0, none⟩), .pointer (some ⟨py, 0, none⟩)] w fun e w' => e = .returned (.pointer (some ⟨px, 0, none⟩)) ∧ Hid (BigIs w' px (x + y) ∧ w.grownBy w' (some px)) := by
  obtain ⟨nx, vx, lx, hx, rfl⟩ := hx
  obtain ⟨ny, vy, ly, hy, rfl⟩ := hy
  exact Add_any px px py nx nx ny vx vx vy lx ly w hx.blk hx.wd.noInt hx hy (Nat.lt_trans (few_words hx.nrm bx.1 bx.2) (by decide)) (Nat.lt_trans (few_words hy.nrm by_.1 by_.2) (by decide))

end Go.Proofs.YtfkafjffjeipaaaGreatDoor

namespace Go.Proofs.YtfkafjffjeipaaaGreatDoor
set_option linter.unusedVariables false
open Go.RowKit Big

theorem rtake_sum (l : List Int) (k : Nat) (h : k < l.length) : (l.take (k + 1)).sum = (l.take k).sum + l.getD k 0 := by
  rw [List.take_succ_eq_append_getElem h, List.sum_append]
  simp [h]
theorem rsum_bound (l : List Int) (k : Nat) (h : k ≤ l.length) (hI : ∀ i, i < l.length → Math.I64 (l.getD i 0)) :
    -((k : Int) * 9223372036854775808) ≤ (l.take k).sum ∧ (l.take k).sum ≤ (k : Int) * 9223372036854775808 := by
  induction k with
  | zero => simp
  | succ k ih =>
    have := ih (by omega)
    have h2 := hI k (by omega)
    unfold Math.I64 at h2
    rw [rtake_sum l k (by omega)]
    omega

set_option maxHeartbeats 2000000 in
theorem refSum_run (b off cap n : Nat) (l : List Int) (w : World) (hn : l.length = n) (hlen : l.length ≤ 140737488355328) (hI : Hid (∀ i, i < l.length → Math.I64 (l.getD i 0)))
    (hc : Hid (∀ i, i < l.length → b < w.heap.size ∧ w.cell? ⟨b, off + i, none⟩ = some (.int .i64 (l.getD i 0)))) :
    Calls Tryz.prog 28 #[.slice (some ⟨b, off, none⟩) n cap] w fun e w' => e = .returned (.tuple #[.int .i64 (rV l.sum), .int .i64 (rE l.sum)]) ∧ Hid (w.grownBy w' none) := by
  subst hn
  go_enter Tryz.func28, Tryz.ntmps28
  go_wp2_with fail
  refine (big_any 0 w (by omega) (by omega)).mono ?_
  rintro e w0 ⟨rfl, hb0, hg0⟩
  have Hb0 : Hid (BigIs w0 w.heap.size 0 ∧ w.grownBy w0 none) := ⟨hb0, hg0⟩
  clear hb0 hg0
  go_wp2
  go_loopw [5] (fun ti wr => ∃ k : Nat, k ≤ l.length ∧ ti = .int .i64 k ∧ Hid (BigIs wr w.heap.size (l.take k).sum ∧ w.grownBy wr none ∧ w.heap.size < wr.heap.size)) (fun ti _ => l.length - (intOf ti).toNat)
  case atStart =>
    obtain ⟨_, _, _, hbb, _⟩ := Hb0.out.1
    exact ⟨0, Nat.zero_le _, rfl, by simpa using Hb0.out.1, Hb0.out.2, blk_lt hbb.blk⟩
  case round =>
    obtain ⟨k, hk, rfl, Hr⟩ := hrel
    by_cases hlt : k < l.length
    · have hck := Hr.out.2.1.cell (hc.out k hlt).2 (by simp)
      have hik := hI.out k hlt
      have hts := rtake_sum l k hlt
      have hbd := rsum_bound l k hk hI.out
      generalize l.getD k 0 = x at *
      generalize (l.take k).sum = s at *
      have Hts : Hid ((l.take (k + 1)).sum = s + x) := hts
      have Hbd : Hid (-1298074214633706907132624082305024 ≤ s ∧ s ≤ 1298074214633706907132624082305024) := by
        refine ⟨?_, ?_⟩ <;> omega
      have Hik : Hid (Math.I64 x) := hik
      clear hts hbd hik
      go_wp2_with fail
      refine (big_any x wr Hik.out.1 Hik.out.2).mono ?_
      rintro e w1 ⟨rfl, hb1, hg1⟩
      have Hx : Hid (BigIs w1 wr.heap.size x ∧ BigIs w1 w.heap.size s ∧ w.grownBy w1 none ∧ wr.grownBy w1 none) := by
        obtain ⟨nx, vx, lx, hbx, hsx⟩ := Hr.out.1
        have hblk := (hg1.block w.heap.size Hr.out.2.2 (by simp)).trans hbx.blk
        exact ⟨hb1, ⟨nx, vx, lx, ⟨hblk, hbx.wd.grow hg1, hbx.nrm, hbx.sgn⟩, hsx⟩, gtrans Hr.out.2.1 hg1, hg1⟩
      clear hb1 hg1
      go_wp2_with fail
      refine (addTo_any w.heap.size wr.heap.size s x w1 Hx.out.2.1 Hx.out.1 (by have := Hbd.out; omega) (by have := Hik.out; unfold Math.I64 at this; omega)).mono ?_
      rintro e w2 ⟨rfl, hR⟩
      have HR : Hid (BigIs w2 w.heap.size (l.take (k + 1)).sum ∧ w.grownBy w2 none ∧ w.heap.size < w2.heap.size) := by
        refine ⟨by rw [Hts.out]; exact hR.out.1, ?_, ?_⟩
        · have h1 := hR.out.2
          exact ⟨h1.os.trans Hx.out.2.2.1.os, h1.tape.trans Hx.out.2.2.1.tape, h1.output.trans Hx.out.2.2.1.output, Nat.le_trans Hx.out.2.2.1.size h1.size, fun i hi _ => (h1.block i (Nat.lt_of_lt_of_le hi Hx.out.2.2.1.size) (by simp; omega)).trans (Hx.out.2.2.1.block i hi (by simp))⟩
        · obtain ⟨_, _, _, hbb, _⟩ := hR.out.1
          exact blk_lt hbb.blk
      clear hR Hx Hr
      go_wp2
      go_roundw
      case rel => exact ⟨k + 1, by omega, by go_num, HR⟩
      case measure => simp [intOf]; omega
    · have hk2 : k = l.length := by omega
      subst hk2
      have hbd := rsum_bound l l.length (Nat.le_refl _) hI.out
      rw [List.take_length] at hbd
      have Hr' : Hid (BigIs wr w.heap.size l.sum ∧ w.grownBy wr none) := by
        have := Hr.out
        rw [List.take_length] at this
        exact ⟨this.1, this.2.1⟩
      have Hbd : Hid (-1298074214633706907132624082305024 ≤ l.sum ∧ l.sum ≤ 1298074214633706907132624082305024) := by
        refine ⟨?_, ?_⟩ <;> omega
      clear hbd Hr
      go_wp2_with fail
      refine (small_any w.heap.size l.sum wr Hr'.out.1 (by have := Hbd.out; omega) (by have := Hbd.out; omega)).mono ?_
      rintro e w1 ⟨rfl, hw⟩
      rw [hw]; clear hw w1
      go_wp2
      go_ret2
      exact ⟨rfl, Hr'.out.2⟩
end Go.Proofs.YtfkafjffjeipaaaGreatDoor

namespace Go.Proofs.YtfkafjffjeipaaaGreatDoor
set_option linter.unusedVariables false
set_option linter.unusedSimpArgs false
set_option maxRecDepth 100000
open Go.RowKit Go.Lib Math

/-- What a call of dayref1.Roll hands back. -/
def RRollEnd (l : List Ac) (am : List Int) (w : World) (e : Ending) (w' : World) : Prop :=
  Below w.heap.size w w' ∧ (rollOk l am l.length = false → e = .returned (.tuple #[.slice none 0 0, .int .i64 10])) ∧
  (rollOk l am l.length = true → ∃ v, e = .returned (.tuple #[v, .int .i64 0]) ∧ IntRow w' w.heap.size v ((List.range l.length).map (rollI l am)))

theorem below_of_grown {w w' : World} (h : w.grownBy w' none) : Below w.heap.size w w' := (Below.refl _ w).grown h (Nat.le_refl _) (fun j e => by cases e)

theorem IntRow.keep {w w' : World} {n : Nat} {v : Value} {xs : List Int} (h : IntRow w n v xs) (hb : Below w.heap.size w w') : IntRow w' n v xs := by
  rcases h.2 with ⟨hv, hn⟩ | ⟨g1, c1, cur, hv, hb1, hh, r⟩
  · exact ⟨h.1, .inl ⟨hv, hn⟩⟩
  · exact ⟨h.1, .inr ⟨g1, c1, cur, hv, hb1, (hb.block g1 (Array.getElem?_eq_some_iff.1 hh).1).trans hh, r⟩⟩

theorem IntRow.form {w : World} {n : Nat} {v : Value} {xs : List Int} (h : IntRow w n v xs) : (v = .slice none 0 0 ∧ xs = []) ∨ ∃ g cap, v = .slice (some ⟨g, 0, none⟩) xs.length cap ∧ n ≤ g ∧ g < w.heap.size ∧ ∀ k, k < xs.length → w.cell? ⟨g, k, none⟩ = some (.int .i64 (xs.getD k 0)) := by
  rcases h.2 with ⟨rfl, hn⟩ | ⟨g, cap, cur, rfl, hg, hh, hc, _⟩
  · exact .inl ⟨rfl, List.eq_nil_of_length_eq_zero hn⟩
  · refine .inr ⟨g, cap, rfl, hg, (Array.getElem?_eq_some_iff.1 hh).1, fun k hk => ?_⟩
    have := World.ownsRow.cells h (g := g) rfl k (.int .i64 (xs.getD k 0)) (by simp [hk])
    rcases Nat.eq_zero_or_pos k with rfl | hp
    · simpa [Addr.add] using this
    · simpa [Addr.add, Nat.ne_of_gt hp] using this

theorem IntRow.own {w : World} {n : Nat} {v : Value} {xs : List Int} (h : IntRow w n v xs) : ∀ j, v.ownBlock = some j → n ≤ j := fun j ej => by
  rcases h.2 with ⟨rfl, _⟩ | ⟨g1, c1, cur, rfl, hg1, _⟩
  · cases ej
  · cases ej; exact hg1

/-- The amounts of those under an account, among the first so many. -/
def someL (l : List Ac) (am : List Int) (i k : Nat) : List Int := ((List.range k).filter (isU l i)).map fun j => am.getD j 0
theorem someL_succ (l : List Ac) (am : List Int) (i k : Nat) : someL l am i (k + 1) = someL l am i k ++ if isU l i k = true then [am.getD k 0] else [] := by
  unfold someL
  rw [List.range_succ, List.filter_append, List.map_append]
  congr 1
  by_cases h : isU l i k = true
  · rw [if_pos h, List.filter_cons_of_pos h]; rfl
  · rw [if_neg h, List.filter_cons_of_neg h]; rfl
theorem someL_len (l : List Ac) (am : List Int) (i k : Nat) : (someL l am i k).length ≤ k := by
  unfold someL
  rw [List.length_map]
  have := List.length_filter_le (isU l i) (List.range k)
  simpa using this
theorem someL_sum {l : List Ac} (h0 : chBad l = 0) (am : List Int) {i : Nat} (hi : i < l.length) : (someL l am i l.length).sum = rollI l am i := by
  unfold rollI
  rw [und_eq h0 hi]
  rfl
theorem someL_ne {l : List Ac} (h0 : chBad l = 0) (am : List Int) {i : Nat} (hi : i < l.length) : someL l am i l.length ≠ [] := by
  obtain ⟨r, hr⟩ := undL_head h0 hi
  unfold undL at hr
  unfold someL
  rw [hr]
  simp

set_option maxHeartbeats 8000000 in
theorem refRoll_any (a : Option Addr) (cap : Nat) (l : List Ac) (a2 : Option Addr) (am : List Int) (cap2 : Nat) (w : World) (h : IsSl w a l cap) (hin : IsInts w a2 am cap2) (h0 : chBad l = 0) (hal : am.length = l.length) :
    Calls Tryz.prog 12 #[.slice a l.length cap, .slice a2 l.length cap2] w (RRollEnd l am w) := by
  have hlen := chBad_len h0
  have Hlen : (l.length : Int) ≤ 60 := by omega
  have HI : Hid (∀ W, Below w.heap.size w W → ∀ k i : Nat, k < l.length → Calls Tryz.prog 27 #[.slice a l.length cap, .int .i64 (k : Nat), .int .i64 (i : Nat)] W fun e w' => e = .returned (.bool (isU l i k)) ∧ w' = W) := fun W hW k i hk => refIn_any a cap l k i W (h.below hW) h0 hk
  have HC : Hid (∀ W, Below w.heap.size w W → ∀ k, k < l.length → ∃ b off, a2 = some ⟨b, off, none⟩ ∧ W.cell? ⟨b, off + k, none⟩ = some (.int .i64 (am.getD k 0))) := fun W hW k hk => by
    rcases (hin.below hW).lies with h | ⟨b, off, e, _, hc⟩
    · rw [h] at hal; simp at hal; omega
    · exact ⟨b, off, e, hc k (by omega)⟩
  have HS : Hid (∀ W v n i, i < l.length → IntRow W n v (someL l am i l.length) → Calls Tryz.prog 28 #[v] W fun e w' => e = .returned (.tuple #[.int .i64 (rV (rollI l am i)), .int .i64 (rE (rollI l am i))]) ∧ Below W.heap.size W w') := fun W v n i hi hr => by
    rcases hr.form with ⟨_, e⟩ | ⟨g, cp, rfl, _, hlt, hc⟩
    · exact absurd e (someL_ne h0 am hi)
    · have hll := someL_len l am i l.length
      have := refSum_run g 0 cp (someL l am i l.length).length (someL l am i l.length) W rfl (by omega) (fun j hj => by
        unfold someL
        unfold someL at hj
        rw [List.length_map] at hj
        rw [List.getD_eq_getElem?_getD, List.getElem?_map, List.getElem?_eq_getElem hj]
        exact am_fits hin _) (fun j hj => ⟨hlt, by rw [Nat.zero_add]; exact hc j hj⟩)
      rw [someL_sum h0 am hi] at this
      refine this.mono ?_
      rintro e w' ⟨rfl, hg⟩
      exact ⟨rfl, below_of_grown hg.out⟩
  obtain ⟨i0, hi0, hz0, hz1, hz2⟩ := info_parts int_info
  clear h hin h0 hal
  go_enter Tryz.func12, Tryz.ntmps12
  go_wp2
  go_loopw [6, 7] (fun s6 s7 wr => ∃ i : Nat, i ≤ l.length ∧ s7 = .int .i64 i ∧ Hid (IntRow wr w.heap.size s6 ((List.range i).map (rollI l am)) ∧ Below w.heap.size w wr ∧ rollOk l am i = true)) (fun _ s7 _ => l.length - (intOf s7).toNat)
  case atStart => exact ⟨0, Nat.zero_le _, rfl, World.ownsRow_nil _ _ _ _, Below.refl _ _, rfl⟩
  case round =>
    obtain ⟨i, hi, rfl, H⟩ := hrel
    obtain ⟨O, BW, hok⟩ := H.out
    clear H
    by_cases hlt : i < l.length
    · have j0 : (0 : Int) ≤ i := by omega
      have j1 : (i : Int) < l.length := by omega
      have HO : Hid (IntRow wr w.heap.size _ _) := O
      have Hok : Hid (rollOk l am i = true) := hok
      clear O hok
      go_wp2
      rename World => w1
      go_loopw [8, 9] (fun s8 s9 wx => ∃ k : Nat, k ≤ l.length ∧ s9 = .int .i64 k ∧ Hid (IntRow wx w1.heap.size s8 (someL l am i k) ∧ Below w1.heap.size w1 wx)) (fun _ s9 _ => l.length - (intOf s9).toNat)
      case atStart => exact ⟨0, Nat.zero_le _, rfl, World.ownsRow_nil _ _ _ _, Below.refl _ _⟩
      case round =>
        obtain ⟨k, hk, rfl, H⟩ := hrel
        obtain ⟨S, BX⟩ := H.out
        have BW2 := BW.trans (BX.mono BW.size)
        have hs1 := BX.size
        clear H
        have HSr : Hid (IntRow wr w1.heap.size _ (someL l am i k)) := S
        clear S
        by_cases hkl : k < l.length
        · obtain ⟨b2, off2, rfl, d0⟩ := HC.out wr BW2 k hkl
          have hI := HI.out wr BW2 k i hkl
          have hsu := someL_succ l am i k
          have hsl := someL_len l am i k
          generalize am.getD k 0 = av at *
          have k0 : (0 : Int) ≤ k := by omega
          have k1 : (k : Int) < l.length := by omega
          cases hu : isU l i k
          · rw [hu] at hI hsu
            rw [if_neg (by simp), List.append_nil] at hsu
            have hSn := HSr.out
            rw [← hsu] at hSn
            have HSn : Hid (IntRow wr w1.heap.size _ (someL l am i (k + 1))) := hSn
            clear hSn
            have HHI : Hid (Calls _ _ _ _ _) := hI
            clear hI hsu HSr
            go_wp2_with fail
            refine HHI.out.mono ?_
            rintro e w' ⟨rfl, hw⟩
            rw [hw]; clear hw w' HHI
            go_wp2
            go_roundw
            case rel => exact ⟨k + 1, by omega, by go_num, HSn.out, BX⟩
            case measure => simp [intOf]; omega
          · rw [hu] at hI hsu
            rw [if_pos rfl] at hsu
            have HHI : Hid (Calls _ _ _ _ _) := hI
            have Hsu : Hid (_ = _) := hsu
            clear hI hsu
            go_wp2_with fail
            refine HHI.out.mono ?_
            rintro e w' ⟨rfl, hw⟩
            rw [hw]; clear hw w' HHI
            go_wp2_with (at_builtin; refine wpList_append_own _ rfl _ _ 35 rfl w1.heap.size 3 i0 (.int .i64 0) 1 8 Tryz.underlying35 hi0 hz0 hz1 hz2 rfl (by decide) _ _ _ rfl (World.ownsRow.alloc HSr.out _) ⟨wr.heap.size, 0, none⟩ 1 1 [.int .i64 av] rfl rfl (cell_one_new _ _ _) ?c2 ?c3 ?c4 ?c5 ?_)
            case c2 => intro u hu; simp at hu; subst hu; rfl
            case c3 => unfold maxLen; omega
            case c4 => omega
            case c5 => simp; omega
            intro v' w4 hown' hgrow _
            have hob := IntRow.own HSr.out
            have B4 : Below w1.heap.size w1 w4 := (BX.alloc hs1 (.cells #[.int .i64 av] 3)).grown hgrow (by simp; omega) (fun j ej => hob j ej)
            have T4 : Hid (IntRow w4 w1.heap.size v' (someL l am i (k + 1))) := by
              unfold Hid
              rw [Hsu.out]
              unfold IntRow
              simpa using hown'
            clear hown' hgrow hob HSr
            go_wp2
            go_roundw
            case rel => exact ⟨k + 1, by omega, by go_num, T4.out, B4⟩
            case measure => simp [intOf]; omega
        · have hk2 : k = l.length := by omega
          subst hk2
          have hS := HS.out wr _ _ i hlt HSr.out
          have hsc := rollOk_succ l am i
          rw [Hok.out, Bool.true_and] at hsc
          have hrng : (List.range (i + 1)).map (rollI l am) = (List.range i).map (rollI l am) ++ [rollI l am i] := by rw [List.range_succ, List.map_append]; rfl
          have hbd := @rollOk_false l am i l.length hlt
          generalize rollI l am i = s at *
          have HHS : Hid (Calls _ _ _ _ _) := hS
          have Hsc : Hid (rollOk l am (i + 1) = fitB s) := hsc
          have Hrng : Hid (_ = _) := hrng
          have Hbd : Hid (fitB s = false → rollOk l am l.length = false) := hbd
          clear hS hsc hrng hbd HSr
          by_cases hf : -9223372036854775808 ≤ s ∧ s ≤ 9223372036854775807
          · have e1 : rV s = s ∧ rE s = 0 := by unfold rV rE; exact ⟨if_pos hf, if_pos hf⟩
            rw [e1.1, e1.2] at HHS
            have hfb : fitB s = true := by simp [fitB, hf]
            clear e1 hf
            go_wp2_with fail
            refine HHS.out.mono ?_
            rintro e w3 ⟨rfl, hb3⟩
            have B3 : Below w1.heap.size w1 w3 := BX.trans (hb3.mono hs1)
            have O3 : Hid (IntRow w3 w.heap.size _ _) := IntRow.keep HO.out B3
            have BW3 := BW.trans (B3.mono BW.size)
            have hs3 := BW3.size
            clear hb3 B3 HHS BX BW2
            go_wp2_with (at_builtin; refine wpList_append_own _ rfl _ _ 35 rfl w.heap.size 3 i0 (.int .i64 0) 1 8 Tryz.underlying35 hi0 hz0 hz1 hz2 rfl (by decide) _ _ _ rfl (World.ownsRow.alloc O3.out _) ⟨w3.heap.size, 0, none⟩ 1 1 [.int .i64 s] rfl rfl (cell_one_new _ _ _) ?c2 ?c3 ?c4 ?c5 ?_)
            case c2 => intro u hu; simp at hu; subst hu; rfl
            case c3 => unfold maxLen; simp; omega
            case c4 => simp; omega
            case c5 => simp; omega
            intro v' w4 hown' hgrow _
            have hob := IntRow.own O3.out
            have B4 : Below w.heap.size w w4 := (BW3.alloc hs3 (.cells #[.int .i64 s] 3)).grown hgrow (by simp; omega) (fun j ej => hob j ej)
            have T4 : Hid (IntRow w4 w.heap.size v' ((List.range (i + 1)).map (rollI l am))) := by
              unfold Hid
              rw [Hrng.out]
              unfold IntRow
              simpa using hown'
            clear hown' hgrow hob O3
            go_wp2
            go_roundw
            case rel => exact ⟨i + 1, by omega, by go_num, T4.out, B4, by rw [Hsc.out]; exact hfb⟩
            case measure => simp [intOf]; omega
          · have e1 : rV s = 0 ∧ rE s = 10 := by unfold rV rE; exact ⟨if_neg hf, if_neg hf⟩
            rw [e1.1, e1.2] at HHS
            have hfb : fitB s = false := by simp [fitB]; omega
            have er := Hbd.out hfb
            have ER : Hid (rollOk l am l.length = false) := er
            clear e1 hf er
            go_wp2_with fail
            refine HHS.out.mono ?_
            rintro e w3 ⟨rfl, hb3⟩
            have BW3 := BW2.trans (hb3.mono BW2.size)
            clear HHS
            go_wp2
            go_ret2
            refine ⟨BW3, fun _ => rfl, fun h => ?_⟩
            rw [ER.out] at h
            cases h
    · have hk2 : i = l.length := by omega
      subst hk2
      have HO : Hid (IntRow wr w.heap.size _ _) := O
      have Hok : Hid (rollOk l am l.length = true) := hok
      clear O hok
      go_wp2
      go_ret2
      refine ⟨BW, fun h => ?_, fun _ => ⟨_, rfl, HO.out⟩⟩
      rw [Hok.out] at h
      cases h
end Go.Proofs.YtfkafjffjeipaaaGreatDoor

namespace Go.Proofs.YtfkafjffjeipaaaGreatDoor
set_option linter.unusedVariables false
open Go.RowKit Go.Extern.Stop Go.Stop Go.Extern

theorem valueOfP (t : Addr) (w : World) : (ReflectliteValue.unpack (.iface 71 (.pointer (some t)))).run Tryz.prog w
    = .ok (.agg #[.pointer (some ⟨1, 71, none⟩), .pointer (some ⟨w.heap.size, 0, none⟩), .int .u64 150]) (w.alloc (.cells #[.pointer (some t)] 71)) := by kernel_rfl
theorem typeP (a : Addr) (w : World) : (ReflectliteValue.methodAny (ReflectliteValue.valueError "reflectlite.Value.Type" 0) (fun t _ _ _ => ReflectliteType.toType t) #[.agg #[.pointer (some ⟨1, 71, none⟩), .pointer (some a), .int .u64 150]]).run Tryz.prog w
    = .ok (.iface 121 (.agg #[.pointer (some ⟨1, 71, none⟩)])) w := by kernel_rfl
theorem methodKind (h : Value) (w : World) : (Go.method 295 121 (.agg #[h]) "Kind").run Tryz.prog w = .ok (118, h) w := by kernel_rfl
theorem kindP (w : World) : ((ReflectliteType.abiMethod fun t => Functor.map (fun a : Nat => Value.int IntKind.u8 (a : Int)) (Rtype.kind t)) #[.pointer (some ⟨1, 71, none⟩)]).run Tryz.prog w = .ok (.int .u8 22) w := by kernel_rfl
theorem kindE (w : World) : ((ReflectliteType.abiMethod fun t => Functor.map (fun a : Nat => Value.int IntKind.u8 (a : Int)) (Rtype.kind t)) #[.pointer (some ⟨1, 43, none⟩)]).run Tryz.prog w = .ok (.int .u8 2) w := by kernel_rfl
theorem rlm (z : Sem Value) (f : TypeId → Addr → Nat → Nat → Sem Value) (v : Value) :
    ReflectliteValue.method z f #[v] = (do match ← ReflectliteValue.parts v with | none => z | some (t, a, fl) => f t a fl (fl % 32)) := rfl
theorem partsP (a : Addr) (w : World) : (ReflectliteValue.parts (.agg #[.pointer (some ⟨1, 71, none⟩), .pointer (some a), .int .u64 150])).run Tryz.prog w = .ok (some (71, a, 150)) w := by kernel_rfl
theorem isNilP (a p : Addr) (W : World) (ha : W.cell? a = some (.pointer (some p))) :
    (ReflectliteValue.method (ReflectliteValue.valueError "reflectlite.Value.IsNil" 0) ReflectliteValue.isNil #[.agg #[.pointer (some ⟨1, 71, none⟩), .pointer (some a), .int .u64 150]]).run Tryz.prog W = .ok (.bool false) W := by
  rw [rlm]
  simp only [Sem.run_bind, partsP, Result.andThen]
  simp [ReflectliteValue.isNil, loadVar, isAgg, underlying, Tryz.underlying71, ha, Result.andThen]
theorem methodElem (h : Value) (w : World) : (Go.method 295 121 (.agg #[h]) "Elem").run Tryz.prog w = .ok (130, .agg #[h]) w := by kernel_rfl
theorem methodImplements (h : Value) (w : World) : (Go.method 295 121 (.agg #[h]) "Implements").run Tryz.prog w = .ok (131, .agg #[h]) w := by kernel_rfl
theorem methodAssignableTo (h : Value) (w : World) : (Go.method 295 121 (.agg #[h]) "AssignableTo").run Tryz.prog w = .ok (128, .agg #[h]) w := by kernel_rfl
theorem elemP (w : World) : (ReflectliteType.method ReflectliteType.elem #[.agg #[.pointer (some ⟨1, 71, none⟩)]]).run Tryz.prog w = .ok (.iface 121 (.agg #[.pointer (some ⟨1, 43, none⟩)])) w := by kernel_rfl
theorem implementsE (w : World) : (ReflectliteType.relation "Implements" ReflectliteType.implements_ #[.agg #[.pointer (some ⟨1, 43, none⟩)], .iface 121 (.agg #[.pointer (some ⟨1, 26, none⟩)])]).run Tryz.prog w = .ok (.bool true) w := by kernel_rfl
theorem typeOfE (v : Value) (w : World) : (ReflectliteType.typeOf #[.iface 43 v]).run Tryz.prog w = .ok (.iface 121 (.agg #[.pointer (some ⟨1, 43, none⟩)])) w := by kernel_rfl
theorem assignableE (w : World) : (ReflectliteType.relation "AssignableTo" ReflectliteType.assignableTo #[.agg #[.pointer (some ⟨1, 43, none⟩)], .iface 121 (.agg #[.pointer (some ⟨1, 43, none⟩)])]).run Tryz.prog w = .ok (.bool true) w := by kernel_rfl
theorem valueOfE (n : Int) (w : World) : (ReflectliteValue.unpack (.iface 43 (.int .i64 n))).run Tryz.prog w
    = .ok (.agg #[.pointer (some ⟨1, 43, none⟩), .pointer (some ⟨w.heap.size, 0, none⟩), .int .u64 130]) (w.alloc (.cells #[.int .i64 n] 43)) := by kernel_rfl
theorem elemOfP (w : World) : (Rtype.elem? 71).run Tryz.prog w = .ok (some 43) w := by kernel_rfl
theorem mkE (p : Addr) (w : World) : (ReflectliteValue.mk 43 p ReflectliteValue.flagAddr).run Tryz.prog w = .ok (.agg #[.pointer (some ⟨1, 43, none⟩), .pointer (some p), .int .u64 386]) w := by kernel_rfl
theorem elemVP (a p : Addr) (W : World) (ha : W.cell? a = some (.pointer (some p))) :
    (ReflectliteValue.method (ReflectliteValue.valueError "reflectlite.Value.Elem" 0) ReflectliteValue.elem #[.agg #[.pointer (some ⟨1, 71, none⟩), .pointer (some a), .int .u64 150]]).run Tryz.prog W
      = .ok (.agg #[.pointer (some ⟨1, 43, none⟩), .pointer (some p), .int .u64 386]) W := by
  rw [rlm]
  simp only [Sem.run_bind, partsP, Result.andThen]
  simp [ReflectliteValue.elem, loadVar, isAgg, underlying, Tryz.underlying71, ha, Result.andThen, elemOfP, mkE]
theorem rls (v x : Value) : ∃ s1 s2 s3 s4 s5 : String, ReflectliteValue.set #[v, x] = (do
    let (some (dst, a, fl), some (src, b, _)) := (← ReflectliteValue.parts v, ← ReflectliteValue.parts x)
      | unsupported (.noEntry s1)
    if fl / ReflectliteValue.flagAddr % 2 == 0 then unsupported (.noEntry s2)
    let val ← loadVar src b
    if ← Rtype.directlyAssignable dst src then storeVar dst a val
    else if ← Rtype.implements dst src then
      if (← Rtype.kind src) == 20 then
        match val with
        | .nilIface => unsupported (.noEntry s3)
        | _ => storeVar dst a val
      else storeVar dst a (.iface src val)
    else panicString (s4 ++ (← Rtype.spelt src) ++ s5 ++ (← Rtype.spelt dst))
    pure (.tuple #[])) := ⟨_, _, _, _, _, rfl⟩
theorem partsEa (a : Addr) (w : World) : (ReflectliteValue.parts (.agg #[.pointer (some ⟨1, 43, none⟩), .pointer (some a), .int .u64 386])).run Tryz.prog w = .ok (some (43, a, 386)) w := by kernel_rfl
theorem partsE (a : Addr) (w : World) : (ReflectliteValue.parts (.agg #[.pointer (some ⟨1, 43, none⟩), .pointer (some a), .int .u64 130])).run Tryz.prog w = .ok (some (43, a, 130)) w := by kernel_rfl
theorem directE (w : World) : (Rtype.directlyAssignable 43 43).run Tryz.prog w = .ok true w := by kernel_rfl
theorem setE (ta b : Addr) (n : Int) (old : Value) (W : World) (hb : W.cell? b = some (.int .i64 n)) (ht : W.cell? ta = some old) (hf : W.frozen? ta = false) :
    (ReflectliteValue.set #[.agg #[.pointer (some ⟨1, 43, none⟩), .pointer (some ta), .int .u64 386], .agg #[.pointer (some ⟨1, 43, none⟩), .pointer (some b), .int .u64 130]]).run Tryz.prog W
      = .ok (.tuple #[]) (W.setCell ta (.int .i64 n)) := by
  obtain ⟨s1, s2, s3, s4, s5, h⟩ := rls (.agg #[.pointer (some ⟨1, 43, none⟩), .pointer (some ta), .int .u64 386]) (.agg #[.pointer (some ⟨1, 43, none⟩), .pointer (some b), .int .u64 130])
  rw [h]
  simp only [Sem.run_bind, partsEa, partsE, Result.andThen]
  simp [ReflectliteValue.flagAddr, loadVar, isAgg, underlying, Tryz.underlying43, hb, Result.andThen, directE, storeVar, Value.cells, storeCells, Addr.add]
  rw [run_store Tryz.prog W ta _ _ (by rfl)]
  simp [ht, hf]
end Go.Proofs.YtfkafjffjeipaaaGreatDoor
