/-
  The contract of quarterdaybig's SetString, at digits and base ten.
-/
import Derived.Test.YtikifooomeikgaaGreatDoorWBigT3
import Derived.Test.YtikifooomeikgaaGreatDoorWBig15
namespace Go.Proofs.YtikifooomeikgaaGreatDoor
set_option linter.unusedVariables false
set_option linter.unusedSimpArgs false
set_option maxRecDepth 100000
open Go.RowKit Big

theorem words_few {l : List Nat} (hn : Nrm l) {k : Nat} (hv : val l < 10 ^ k) (hk : k ≤ 140737488351300) : l.length < 35184372088832 := by
  rcases Nat.eq_zero_or_pos l.length with h0 | h0
  · omega
  · have h1 := val_ge hn h0
    have h2 : (10 : Nat) ^ k ≤ 2 ^ (4 * k) := by
      rw [Nat.pow_mul]
      exact Nat.pow_le_pow_left (by decide) k
    have h3 : (4294967296 : Nat) ^ (l.length - 1) = 2 ^ (32 * (l.length - 1)) := by rw [Nat.pow_mul]
    have h4 : 2 ^ (32 * (l.length - 1)) < 2 ^ (4 * k) := by rw [← h3]; omega
    have h5 := (Nat.pow_lt_pow_iff_right (a := 2) (by decide)).1 h4
    omega
theorem valA_take (d : List UInt8) (k : Nat) (h : k < d.length) : valA 0 (d.take (k + 1)) = valA 0 (d.take k) * 10 + ((d[k]'h).toNat - 48) := by
  rw [List.take_succ_eq_append_getElem h, valA_app, valA_cons, valA_nil]
theorem valA_few (d : List UInt8) (hd : d.all isDig = true) (k : Nat) : valA 0 (d.take k) < 10 ^ k := by
  have h1 : (d.take k).all isDig = true := by
    rw [List.all_eq_true] at hd ⊢
    exact fun x hx => hd x (List.mem_of_mem_take hx)
  have h2 := valA_lt (d.take k) 0 h1
  have h3 : (d.take k).length ≤ k := by rw [List.length_take]; omega
  have h4 : 10 ^ (d.take k).length ≤ 10 ^ k := Nat.pow_le_pow_right (by decide) h3
  omega

set_option maxHeartbeats 4000000 in
theorem setString_any (zb : Nat) (n0 : Bool) (u : Value) (d : List UInt8) (w : World) (hz : w.heap[zb]? = some (.cells #[.bool n0, u] 47 (0, 0))) (hu : ∀ k n, u ≠ .int k n) (hd : d.all isDig = true) (h1 : d ≠ []) (hl : d.length ≤ 140737488351232) :
    Calls Tryz.prog 18 #[.pointer (some ⟨zb, 0, none⟩), .string (txt d), .int .i64 10] w fun e w' => ∃ v l, e = .returned (.tuple #[.pointer (some ⟨zb, 0, none⟩), .bool true]) ∧ IsBig w' zb false v l ∧ val l = valA 0 d ∧ w.grownBy w' (some zb) := by
  have hlp : 0 < d.length := List.length_pos_iff.2 h1
  have hdig : ∀ k (h : k < d.length), 48 ≤ (d[k]'h).toNat ∧ (d[k]'h).toNat ≤ 57 := fun k h => by
    rw [List.all_eq_true] at hd
    have := hd _ (List.getElem_mem h)
    simp [isDig] at this
    exact this
  have hsz : (txt d).size = d.length := txt_size d
  have hget : ∀ k (h : k < (txt d).size) (h' : k < d.length), ((txt d)[k]'h).toNat = (d[k]'h').toNat := fun k h h' => rfl
  have Hget : Hid (∀ k (h : k < (txt d).size) (h' : k < d.length), ((txt d)[k]'h).toNat = (d[k]'h').toNat) := hget
  have Hdig : Hid (∀ k (h : k < d.length), 48 ≤ (d[k]'h).toNat ∧ (d[k]'h).toNat ≤ 57) := hdig
  have Hd : Hid (d.all isDig = true) := hd
  have Hsz : Hid ((txt d).size = d.length) := hsz
  obtain ⟨c0, hc0⟩ : ∃ c0, (d[0]'hlp).toNat = c0 := ⟨_, rfl⟩
  have hc1 := hdig 0 hlp
  rw [hc0] at hc1
  have hp0 : 0 < (txt d).size := Nat.lt_of_lt_of_eq hlp hsz.symm
  have hg0 := hget 0 hp0 hlp
  rw [hc0] at hg0
  have q45 : ((c0 : Int) == 45) = false := by rw [beq_eq_false_iff_ne]; omega
  have q43 : ((c0 : Int) == 43) = false := by rw [beq_eq_false_iff_ne]; omega
  have i0 : (0 : Int) < (txt d).size := by omega
  have hzz : (((txt d).size : Int) == 0) = false := by rw [beq_eq_false_iff_ne]; omega
  have hls : ((txt d).size : Int) ≤ 140737488351232 := by omega
  have Hz : Hid (w.heap[zb]? = _) := hz
  have Hu : Hid (∀ k n, u ≠ .int k n) := hu
  clear hget hdig hd hc0 hc1 hz hu h1 hsz
  go_enter Tryz.func18, Tryz.ntmps18
  go_wp2
  go_loopw [9, 10, 11, 12] (fun rv iv _ _ wr => ∃ (k : Nat) (lr : List Nat) (ar : Option Addr) (cr : Nat), k ≤ d.length ∧ iv = .int .i64 k ∧ rv = .slice ar lr.length cr ∧ Hid (Wd wr rv lr) ∧ Hid (Nrm lr) ∧ Hid (val lr = valA 0 (d.take k)) ∧ Hid (w.grownBy wr none)) (fun _ iv _ _ _ => d.length - (intOf iv).toNat)
  case atStart => exact ⟨0, [], none, 0, Nat.zero_le _, rfl, rfl, wd_nil _ _ _, .inl rfl, rfl, grefl _ _⟩
  case round =>
    obtain ⟨k, lr, ar, cr, hk, rfl, rfl, HW, HN, HV, HG⟩ := hrel
    by_cases hlt : k < d.length
    · have hks : k < (txt d).size := by rw [Hsz.out]; exact hlt
      have j0 : (0 : Int) ≤ k := by omega
      have j1 : (k : Int) < (txt d).size := by omega
      have hgk := Hget.out k hks hlt
      have hbk := Hdig.out k hlt
      have hnx := valA_take d k hlt
      have hf1 := valA_few d Hd.out k
      have hf2 := valA_few d Hd.out (k + 1)
      obtain ⟨b, hb⟩ : ∃ b, (d[k]'hlt).toNat = b := ⟨_, rfl⟩
      rw [hb] at hgk hbk hnx
      have hlr : lr.length < 35184372088832 := words_few HN.out (by rw [HV.out]; exact hf1) (by omega)
      have b1 : (48 : Int) ≤ b := by omega
      have b2 : (b : Int) ≤ 57 := by omega
      obtain ⟨dv, hdv⟩ : ∃ dv : Nat, b - 48 = dv := ⟨_, rfl⟩
      have hdv2 : (b : Int) - 48 = dv := by omega
      have hdv9 : (dv : Int) < 10 := by omega
      have hdv8 : ¬ (10 : Int) ≤ dv := by omega
      rw [hdv] at hnx
      have hW10 := words_any 10 wr (by decide)
      have e10 : ((10 : Nat) : Int) = 10 := rfl
      rw [e10] at hW10
      have HW10 : Hid (Calls _ _ _ _ _) := hW10
      have Hnx : Hid (valA 0 (d.take (k + 1)) = _) := hnx
      have Hf2 : Hid (valA 0 (d.take (k + 1)) < 10 ^ (k + 1)) := hf2
      clear hW10 e10 hb hnx hf1 hf2 hdv
      go_wp2_with fail
      refine HW10.out.mono ?_
      rintro e w1 ⟨v1, l1, rfl, hw1, hn1, hv1, hg1⟩
      have hl1 : l1.length ≤ 2 := len_two hw1.ok hn1 (by omega)
      have HM : Hid (Calls _ _ _ _ _) := mul_any _ v1 lr l1 w1 (HW.out.grow hg1) hw1 hlr (by omega)
      have HG1 : Hid (w.grownBy w1 none) := gtrans HG.out hg1
      rw [hv1] at HM
      obtain ⟨a1, cp1, rfl⟩ := hw1.slice
      clear HW10 hw1 hn1 hv1 hg1 HW HG
      go_wp2_with fail
      refine HM.out.mono ?_
      rintro e w2 ⟨v2, l2, rfl, hw2, hn2, hv2, hg2⟩
      have HW2 : Hid (Wd w2 v2 l2) := hw2
      have hl2 : l2.length < 35184372088832 := words_few hn2 (k := k + 1) (by
        rw [hv2, HV.out]
        have := Hf2.out
        rw [Hnx.out] at this
        omega) (by omega)
      have HV2 : Hid (val l2 = val lr * 10) := hv2
      have HG2 : Hid (w.grownBy w2 none) := gtrans HG1.out hg2
      have HWd : Hid (Calls _ _ _ _ _) := words_any dv w2 (by omega)
      obtain ⟨a2, cp2, rfl⟩ := hw2.slice
      clear HM hw2 hn2 hv2 hg2 HG1
      go_wp2_with fail
      refine HWd.out.mono ?_
      rintro e w3 ⟨v3, l3, rfl, hw3, hn3, hv3, hg3⟩
      have hl3 : l3.length ≤ 2 := len_two hw3.ok hn3 (by omega)
      have HA : Hid (Calls _ _ _ _ _) := add_any _ v3 l2 l3 w3 (HW2.out.grow hg3) hw3 hl2 (by omega)
      rw [hv3] at HA
      have HG3 : Hid (w.grownBy w3 none) := gtrans HG2.out hg3
      obtain ⟨a3, cp3, rfl⟩ := hw3.slice
      clear HWd hw3 hn3 hv3 hg3 HG2 HW2
      go_wp2_with fail
      refine HA.out.mono ?_
      rintro e w4 ⟨v4, l4, rfl, hw4, hn4, hv4, hg4⟩
      have HG4 : Hid (w.grownBy w4 none) := gtrans HG3.out hg4
      have HV4 : Hid (val l4 = valA 0 (d.take (k + 1))) := by
        unfold Hid
        rw [hv4, HV2.out, HV.out, Hnx.out]
      obtain ⟨a4, cp4, ev4⟩ := hw4.slice
      subst ev4
      have HW4 : Hid (Wd w4 _ l4) := hw4
      have HN4 : Hid (Nrm l4) := hn4
      clear HA hw4 hn4 hv4 hg4 HG3 HV HV2 Hnx Hf2
      go_wp2
      go_roundw
      case rel => exact ⟨k + 1, l4, a4, cp4, hlt, by go_num, rfl, HW4, HN4, HV4, HG4⟩
      case measure => simp [intOf]; omega
    · have hk2 : k = d.length := by omega
      have hV : val lr = valA 0 d := by rw [HV.out, hk2, List.take_length]
      have HGv : Hid (Calls _ _ _ _ _) := give_any zb false n0 u _ lr wr (grow_blk Hz.out HG.out) Hu.out HW.out HN.out
      have HVz : Hid (val lr = valA 0 d) := hV
      have j1 : ¬ (k : Int) < (txt d).size := by have := Hsz.out; omega
      clear hV HV HW HN hk2
      go_wp2_with fail
      refine HGv.out.mono ?_
      rintro e w2 ⟨rfl, hB, hg2⟩
      have HB : Hid (IsBig w2 zb _ _ lr) := hB
      have HG2 : Hid (w.grownBy w2 (some zb)) := grow_then HG.out hg2
      clear HGv hB hg2
      go_wp2
      go_ret2
      exact ⟨_, _, rfl, HB.out, HVz.out, HG2.out⟩
end Go.Proofs.YtikifooomeikgaaGreatDoor
