/-
  The contracts of TrailingZeroBits and IsInt64 of quarterdaybig's Int, and of dayref1's Small.
-/
import Derived.Test.YtioegjmcpjnmnaaGreatDoorZp9
import Derived.Laws.AppendOwn
import Derived.OwnWalk
import Derived.Deep.RegionWith
import Derived.Deep.QuietTactic
import Derived.BigQuiet
import Derived.Deep.RegionHeld3
import Derived.BigRegion
import Derived.Test.YtioegjmcpjnmnaaGreatDoorZp7
import Derived.Laws.Bits64b
namespace Go.Proofs.YtioegjmcpjnmnaaGreatDoor
set_option linter.unusedVariables false
set_option linter.unusedSimpArgs false
open Go.RowKit Big

theorem own_wd {w : World} {base n : Nat} {v : Value} {l : List Nat} (ho : Ok l) (hn : l.length = n) (hl : n ≤ 140737488355328) (h : w.ownsRow base 115 1 v n (l.map (fun x : Nat => Value.int .u32 (x : Int)))) : Wd w v l := by
  obtain ⟨hlen, ⟨rfl, h0⟩ | ⟨g, cap, cur, rfl, hg, hb, hc, hm, hs, ht⟩⟩ := h
  · have : l = [] := by subst h0; exact List.eq_nil_of_length_eq_zero hn
    subst this
    exact wd_nil _ _ _
  · rcases Nat.eq_zero_or_pos n with h0 | h0
    · have : l = [] := by subst h0; exact List.eq_nil_of_length_eq_zero hn
      subst this
      subst h0
      exact wd_nil _ _ _
    · refine ⟨ho, by omega, .inr ⟨by omega, g, 0, cap, by rw [hn], blk_lt hb, by omega, fun i hi => ?_⟩⟩
      have e : cur[i]? = some (.int .u32 (l.getD i 0 : Nat)) := by
        have h1 : (cur.toList.take (n * 1))[i]? = some (.int .u32 (l.getD i 0 : Nat)) := by rw [ht]; simp [hi]
        rw [List.getElem?_take] at h1
        rw [if_pos (by omega)] at h1
        simpa using h1
      rw [Nat.zero_add]
      simp [World.cell?, hb, e]

theorem twin_any (v : Value) (l : List Nat) (w : World) (h : Wd w v l) (hl : l.length < 35184372088832) :
    Calls Tryz.prog 87 #[v] w fun e w' => ∃ v', e = .returned v' ∧ Hid (Wd w' v' l ∧ w.grownBy w' none) := by
  obtain ⟨i0, hi, hz0, hz1, hz2⟩ := info_parts Tryz.infoW
  have some' : ∀ b off cap, (∀ i, i < l.length → w.cell? ⟨b, off + i, none⟩ = some (.int .u32 (l.getD i 0 : Nat))) → Calls Tryz.prog 87 #[.slice (some ⟨b, off, none⟩) l.length cap] w fun e w' => ∃ v', e = .returned v' ∧ Hid (Wd w' v' l ∧ w.grownBy w' none) := fun b off cap hc => by
    have Hc : Hid (∀ i, i < l.length → w.cell? ⟨b, off + i, none⟩ = some (.int .u32 (l.getD i 0 : Nat))) := hc
    have Ho : Hid (Ok l) := h.ok
    clear hc
    go_enter Tryz.func87, Tryz.ntmps87
    go_wp2_with (at_builtin; refine wpList_append_own _ rfl _ _ 84 rfl w.heap.size 115 i0 (.int .u32 0) 1 4 Tryz.underlying84 hi hz0 hz1 hz2 rfl (by decide) _ 0 [] rfl (World.ownsRow_nil _ _ _ _) ⟨b, off, none⟩ l.length cap (l.map (fun x : Nat => Value.int .u32 (x : Int))) rfl (by simp) ?c1 ?c2 ?c3 ?c4 ?c5 ?_)
    case c1 =>
      intro j u hj
      have hj2 : j < l.length := by
        have := (List.getElem?_eq_some_iff.1 hj).1
        simpa using this
      have : u = .int .u32 (l.getD j 0 : Nat) := by simp [hj2] at hj; rw [← hj]; simp [hj2]
      subst this
      have e := Hc.out j hj2
      rcases Nat.eq_zero_or_pos j with rfl | hp
      · simpa [Addr.add] using e
      · simpa [Addr.add, Nat.ne_of_gt hp] using e
    case c2 => intro u hu; simp at hu; obtain ⟨x, _, rfl⟩ := hu; rfl
    case c3 => unfold maxLen; omega
    case c4 => omega
    case c5 => exact Nat.le_refl _
    · intro v' w1 hown' hgrow _
      have R : Hid (Wd w1 v' l ∧ w.grownBy w1 none) := by
        exact ⟨own_wd Ho.out rfl (by omega) hown', hgrow⟩
      clear hown' hgrow
      go_wp2
      go_ret
      exact ⟨_, rfl, R⟩
  rcases h.at_ with ⟨h0, a, cap, hv⟩ | ⟨h0, b, off, cap, hv, hb, hcap, hc⟩
  · subst hv
    subst h0
    cases a with
    | none =>
      clear some'
      have R : Hid (Wd w (.slice none 0 0) [] ∧ w.grownBy w none) := ⟨wd_nil _ _ _, grefl _ _⟩
      go_enter Tryz.func87, Tryz.ntmps87
      go_wp2
      go_ret
      exact ⟨_, rfl, R⟩
    | some x =>
      clear some'
      have R : Hid (Wd w (.slice none 0 0) [] ∧ w.grownBy w none) := ⟨wd_nil _ _ _, grefl _ _⟩
      go_enter Tryz.func87, Tryz.ntmps87
      go_wp2
      go_ret
      exact ⟨_, rfl, R⟩
  · subst hv
    exact some' b off cap hc

end Go.Proofs.YtioegjmcpjnmnaaGreatDoor

namespace Go.Proofs.YtioegjmcpjnmnaaGreatDoor
set_option linter.unusedVariables false
open Go.RowKit Big

theorem drew2 (w : World) (a b : Nat) : (w.drewN a).drewN b = w.drewN (a + b) := by simp [World.drewN, Nat.add_assoc]

/-- -1, 0 or 1. -/
def cmpV (a b : Nat) : Int := if a < b then -1 else if b < a then 1 else 0
theorem cmpV_lt {a b : Nat} (h : a < b) : cmpV a b = -1 := by unfold cmpV; rw [if_pos h]
theorem cmpV_gt {a b : Nat} (h : b < a) : cmpV a b = 1 := by unfold cmpV; rw [if_neg (by omega), if_pos h]
theorem cmpV_eq {a b : Nat} (h : a = b) : cmpV a b = 0 := by unfold cmpV; rw [if_neg (by omega), if_neg (by omega)]

set_option maxHeartbeats 2000000 in
theorem cmp_any (va vb : Value) (a b : List Nat) (w : World) (ha : Wd w va a) (hb : Wd w vb b) (na : Nrm a) (nb : Nrm b) :
    Calls Tryz.prog 80 #[va, vb] w fun e w' => e = .returned (.int .i64 (cmpV (val a) (val b))) ∧ ∃ n, w' = w.drewN n := by
  obtain ⟨aa, ca, rfl, la, Oa, Fa⟩ := ha.form
  obtain ⟨ab, cb, rfl, lb, Ob, Fb⟩ := hb.form
  clear ha hb
  by_cases hlt : a.length < b.length
  · have R : Hid (cmpV (val a) (val b) = -1) := cmpV_lt (len_lt Oa.out nb hlt)
    have hne : ((a.length : Int) != b.length) = true := by simp; omega
    have hlt' : (a.length : Int) < b.length := by omega
    clear na nb
    go_enter Tryz.func80, Tryz.ntmps80
    go_wp2
    go_ret
    exact ⟨by rw [R.out]; rfl, 0, rfl⟩
  by_cases hgt : b.length < a.length
  · have R : Hid (cmpV (val a) (val b) = 1) := cmpV_gt (len_lt Ob.out na hgt)
    have hne : ((a.length : Int) != b.length) = true := by simp; omega
    have hlt' : ¬ ((a.length : Int) < b.length) := by omega
    clear na nb
    go_enter Tryz.func80, Tryz.ntmps80
    go_wp2
    go_ret
    exact ⟨by rw [R.out]; rfl, 0, rfl⟩
  have hlen : a.length = b.length := by omega
  have hne : ((a.length : Int) != b.length) = false := by simp; omega
  have Hlen : Hid (a.length = b.length) := hlen
  clear na nb hlt hgt hlen
  go_enter Tryz.func80, Tryz.ntmps80
  go_wp2
  go_loopw [5] (fun ti wr => ∃ m n : Nat, m ≤ a.length ∧ ti = .int .i64 ((m : Int) - 1) ∧ wr = w.drewN n ∧ Hid (a.drop m = b.drop m)) (fun ti _ => (RowKit.intOf ti + 1).toNat)
  case atStart => exact ⟨a.length, 0, Nat.le_refl _, rfl, rfl, by rw [Hid, List.drop_length, Hlen.out, List.drop_length]⟩
  case round =>
    obtain ⟨m, n, hm, rfl, rfl, Hd⟩ := hrel
    cases m with
    | zero =>
      have R : Hid (cmpV (val a) (val b) = 0) := by
        have := Hd.out
        simp at this
        exact cmpV_eq (by rw [this])
      go_wp2
      go_ret
      exact ⟨by rw [R.out]; rfl, _, rfl⟩
    | succ j =>
      rw [show ((j + 1 : Nat) : Int) - 1 = (j : Int) by omega]
      have hja : j < a.length := by omega
      have hjb : j < b.length := by have := Hlen.out; omega
      obtain ⟨ba, oa, rfl, hba, hca⟩ := Fa.out (by omega)
      obtain ⟨bb, ob, rfl, hbb, hcb⟩ := Fb.out (by omega)
      have hx := hca j hja
      have hy := hcb j hjb
      have i1 : (j : Int) < a.length := by omega
      have i2 : (j : Int) < b.length := by omega
      have T1 := fun h => top_lt Oa.out j hja hjb Hlen.out Hd.out h
      have T2 := fun h => top_lt Ob.out j hjb hja Hlen.out.symm Hd.out.symm h
      have E := fun h : a.getD j 0 = b.getD j 0 => (show a.drop j = b.drop j by
        have e1 : a.drop j = a.getD j 0 :: a.drop (j + 1) := by rw [List.drop_eq_getElem_cons hja]; simp [hja]
        have e2 : b.drop j = b.getD j 0 :: b.drop (j + 1) := by rw [List.drop_eq_getElem_cons hjb]; simp [hjb]
        rw [e1, e2, h, Hd.out])
      generalize a.getD j 0 = x at *
      generalize b.getD j 0 = y at *
      clear hca hcb Hd
      rcases Nat.lt_trichotomy x y with hxy | hxy | hxy
      · have R : Hid (cmpV (val a) (val b) = -1) := cmpV_lt (T1 hxy)
        have t1 : ((x : Int) != y) = true := by simp; omega
        have t2 : (x : Int) < y := by omega
        clear T1 T2 E
        go_wp2
        go_quiet (fail)
        go_wp2
        go_quiet (fail)
        go_wp2
        go_ret
        exact ⟨by rw [R.out]; rfl, _, by rw [drew2, drew2]⟩
      · have R : Hid (a.drop j = b.drop j) := E hxy
        have t1 : ((x : Int) != y) = false := by simp; omega
        clear T1 T2 E
        go_wp2
        go_quiet (fail)
        go_wp2
        go_roundw
        case rel => exact ⟨j, _, by omega, by go_num, rfl, R⟩
        case measure => simp [RowKit.intOf]
      · have R : Hid (cmpV (val a) (val b) = 1) := cmpV_gt (T2 hxy)
        have t1 : ((x : Int) != y) = true := by simp; omega
        have t2 : ¬ ((x : Int) < y) := by omega
        clear T1 T2 E
        go_wp2
        go_quiet (fail)
        go_wp2
        go_quiet (fail)
        go_wp2
        go_ret
        exact ⟨by rw [R.out]; rfl, _, by rw [drew2, drew2]⟩
end Go.Proofs.YtioegjmcpjnmnaaGreatDoor

namespace Go.Proofs.YtioegjmcpjnmnaaGreatDoor
set_option linter.unusedVariables false
open Go.RowKit Big

theorem sg_cut (neg : Bool) (l : List Nat) (n : Nat) (h : l.length = 0 → n = 0) : sg (neg && decide (0 < l.length)) n = sg neg n := by
  rcases Nat.eq_zero_or_pos l.length with h0 | h0
  · rw [h h0]; simp [sg]
  · simp [h0]

set_option maxHeartbeats 1000000 in
theorem sum_bigs (xn yn : Bool) (va vb : Value) (a b : List Nat) (w : World) (ha : Wd w va a) (hb : Wd w vb b) (na : Nrm a) (nb : Nrm b) (h1 : a.length < 35184372088832) (h2 : b.length < 35184372088832) :
    Calls Tryz.prog 58 #[.bool xn, va, .bool yn, vb] w fun e w' => ∃ neg v l, e = .returned (.tuple #[.bool neg, v]) ∧ Wd w' v l ∧ Nrm l ∧ sg neg (val l) = sg xn (val a) + sg yn (val b) ∧ w.grownBy w' none := by
  have Ha : Hid (Wd w va a) := ha
  have Hb : Hid (Wd w vb b) := hb
  have Na : Hid (Nrm a) := na
  have Nb : Hid (Nrm b) := nb
  clear ha hb na nb
  by_cases hs : xn = yn
  · subst hs
    go_enter Tryz.func58, Tryz.ntmps58
    go_wp2_with fail
    refine (add_any va vb a b w Ha.out Hb.out h1 h2).mono ?_
    rintro e w1 ⟨v, l, rfl, hv, hn, hval, hg⟩
    have R : Hid (Wd w1 v l ∧ Nrm l ∧ sg xn (val l) = sg xn (val a) + sg xn (val b) ∧ w.grownBy w1 none) := ⟨hv, hn, by rw [hval]; unfold sg; cases xn <;> simp <;> omega, hg⟩
    clear hv hn hval hg
    go_wp2
    go_ret2
    exact ⟨xn, v, l, rfl, R.out.1, R.out.2.1, R.out.2.2.1, R.out.2.2.2⟩
  · have hs' : (xn == yn) = false := by simpa using hs
    by_cases hge : val b ≤ val a
    · have hc : Hid (0 ≤ cmpV (val a) (val b)) := by
        unfold Hid cmpV; rw [if_neg (by omega)]; split <;> omega
      have hll := len_le Ha.out.ok Nb.out hge
      go_enter Tryz.func58, Tryz.ntmps58
      go_wp2_with fail
      refine (cmp_any va vb a b w Ha.out Hb.out Na.out Nb.out).mono ?_
      rintro e w1 ⟨rfl, n, hw⟩
      rw [hw]; clear hw w1
      have hc' := hc.out
      generalize cmpV (val a) (val b) = q at *
      clear hc
      go_wp2_with fail
      refine (sub_any va vb a b _ (Ha.out.grow (gdrewN (grefl w _) n)) (Hb.out.grow (gdrewN (grefl w _) n)) hge hll h1).mono ?_
      rintro e w1 ⟨v, l, rfl, hv, hn, hval, hg⟩
      have R : Hid (Wd w1 v l ∧ Nrm l ∧ sg xn (val l) = sg xn (val a) + sg yn (val b) ∧ w.grownBy w1 none) := ⟨hv, hn, by rw [hval]; unfold sg; cases xn <;> cases yn <;> simp at hs ⊢ <;> omega, gtrans (gdrewN (grefl w _) n) hg⟩
      clear hv hn hval hg
      go_wp2
      go_ret2
      exact ⟨xn, v, l, rfl, R.out.1, R.out.2.1, R.out.2.2.1, R.out.2.2.2⟩
    · have hc : Hid (cmpV (val a) (val b) < 0) := by
        unfold Hid; rw [cmpV_lt (by omega)]; omega
      have hll := len_le Hb.out.ok Na.out (by omega)
      go_enter Tryz.func58, Tryz.ntmps58
      go_wp2_with fail
      refine (cmp_any va vb a b w Ha.out Hb.out Na.out Nb.out).mono ?_
      rintro e w1 ⟨rfl, n, hw⟩
      rw [hw]; clear hw w1
      have hc' := hc.out
      generalize cmpV (val a) (val b) = q at *
      clear hc
      go_wp2_with fail
      refine (sub_any vb va b a _ (Hb.out.grow (gdrewN (grefl w _) n)) (Ha.out.grow (gdrewN (grefl w _) n)) (by omega) hll h2).mono ?_
      rintro e w1 ⟨v, l, rfl, hv, hn, hval, hg⟩
      have R : Hid (Wd w1 v l ∧ Nrm l ∧ sg yn (val l) = sg xn (val a) + sg yn (val b) ∧ w.grownBy w1 none) := ⟨hv, hn, by rw [hval]; unfold sg; cases xn <;> cases yn <;> simp at hs ⊢ <;> omega, gtrans (gdrewN (grefl w _) n) hg⟩
      clear hv hn hval hg
      go_wp2
      go_ret2
      exact ⟨yn, v, l, rfl, R.out.1, R.out.2.1, R.out.2.2.1, R.out.2.2.2⟩
end Go.Proofs.YtioegjmcpjnmnaaGreatDoor

namespace Go.Proofs.YtioegjmcpjnmnaaGreatDoor
set_option linter.unusedVariables false
set_option linter.unusedSimpArgs false
open Go.RowKit Big

theorem gdr (w : World) : w.grownBy w.drew none := ⟨rfl, rfl, rfl, Nat.le_refl _, fun _ _ _ => rfl⟩

/-- What stands between the two calls of Add and Sub. -/
def Mid (w w1 : World) (neg : Bool) (v : Value) (l : List Nat) (x : Int) : Prop := Wd w1 v l ∧ Nrm l ∧ sg neg (val l) = x ∧ w.grownBy w1 none

theorem sum_mid (nx ny : Bool) (vx vy : Value) (lx ly : List Nat) (w W : World) (hW : w.grownBy W none) (hx : Wd w vx lx) (hy : Wd w vy ly) (kx : Nrm lx) (ky : Nrm ly) (h1 : lx.length < 35184372088832) (h2 : ly.length < 35184372088832) :
    Calls Tryz.prog 58 #[.bool nx, vx, .bool ny, vy] W fun e w' => ∃ neg v l, e = .returned (.tuple #[.bool neg, v]) ∧ Mid w w' neg v l (sg nx (val lx) + sg ny (val ly)) := by
  refine (sum_bigs nx ny vx vy lx ly W (hx.grow hW) (hy.grow hW) kx ky h1 h2).mono ?_
  rintro e w1 ⟨neg, v, l, rfl, hv, hn, hval, hg⟩
  exact ⟨neg, v, l, rfl, hv, hn, hval, gtrans hW hg⟩

theorem give_mid (p : Nat) (neg nz : Bool) (vz v : Value) (l : List Nat) (x : Int) (w w1 : World) (hz : w.heap[p]? = some (.cells #[.bool nz, vz] 86 (0, 0))) (hzi : ∀ k n, vz ≠ .int k n) (h : Mid w w1 neg v l x) :
    Calls Tryz.prog 55 #[.pointer (some ⟨p, 0, none⟩), .bool neg, v] w1 fun e w' => e = .returned (.pointer (some ⟨p, 0, none⟩)) ∧ Hid (BigIs w' p x ∧ w.grownBy w' (some p)) := by
  obtain ⟨hv, hn, hval, hg⟩ := h
  refine (give_any p neg nz vz v l w1 ((hg.block p (blk_lt hz) (by simp)).trans hz) hzi hv hn).mono ?_
  rintro e w2 ⟨rfl, hb, hg2⟩
  refine ⟨rfl, ⟨_, v, l, hb, ?_⟩, gtrans (gweak hg _) hg2⟩
  rw [sg_cut _ _ _ (fun h => by rw [List.eq_nil_of_length_eq_zero h]; rfl)]
  exact hval

end Go.Proofs.YtioegjmcpjnmnaaGreatDoor

namespace Go.Proofs.YtioegjmcpjnmnaaGreatDoor
set_option linter.unusedVariables false
open Go.RowKit Big

/-- How long a number is, in bits. -/
def Bits (n L : Nat) : Prop := (n = 0 ∧ L = 0) ∨ (1 ≤ L ∧ 2 ^ (L - 1) ≤ n ∧ n < 2 ^ L)

theorem pow32 (k : Nat) : 4294967296 ^ k = 2 ^ (32 * k) := by
  rw [Nat.pow_mul]

theorem bits_words {l : List Nat} (ho : Ok l) (h0 : 0 < l.length) (k : Nat) (hk : 1 ≤ k) (h1 : 2 ^ (k - 1) ≤ l.getD (l.length - 1) 0) (h2 : l.getD (l.length - 1) 0 < 2 ^ k) : Bits (val l) ((l.length - 1) * 32 + k) := by
  have e := val_take_succ l (l.length - 1) (by omega)
  rw [Nat.sub_add_cancel h0, List.take_length] at e
  have hlt := val_lt (ok_take ho (l.length - 1))
  rw [List.length_take, Nat.min_eq_left (by omega)] at hlt
  right
  refine ⟨by omega, ?_, ?_⟩
  · rw [show (l.length - 1) * 32 + k - 1 = 32 * (l.length - 1) + (k - 1) by omega, Nat.pow_add, ← pow32, e]
    have := Nat.mul_le_mul_left (4294967296 ^ (l.length - 1)) h1
    omega
  · rw [show (l.length - 1) * 32 + k = 32 * (l.length - 1) + k by omega, Nat.pow_add, ← pow32, e]
    have := Nat.mul_le_mul_left (4294967296 ^ (l.length - 1)) (Nat.succ_le_of_lt h2)
    rw [Nat.succ_eq_add_one, Nat.mul_add, Nat.mul_one] at this
    omega

theorem half_step (x k t : Nat) (h : t = x / 2 ^ k) : t / 2 = x / 2 ^ (k + 1) := by rw [h, Nat.div_div_eq_div_mul, Nat.pow_succ]

set_option maxHeartbeats 1000000 in
theorem length_any (v : Value) (l : List Nat) (w : World) (h : Wd w v l) (hn : Nrm l) (hl : l.length < 35184372088832) :
    Calls Tryz.prog 92 #[v] w fun e w' => (∃ L : Nat, e = .returned (.int .i64 L) ∧ Bits (val l) L) ∧ w' = w := by
  have ho := h.ok
  rcases h.at_ with ⟨h0, a, cap, hv⟩ | ⟨h0, b, off, cap, hv, hb, hcap, hc⟩
  · subst h0; subst hv
    go_enter Tryz.func92, Tryz.ntmps92
    go_wp2
    go_ret
    exact ⟨⟨0, rfl, .inl ⟨rfl, rfl⟩⟩, rfl⟩
  · subst hv
    obtain ⟨j, hj⟩ : ∃ j, l.length = j + 1 := ⟨l.length - 1, by omega⟩
    have hcj := hc j (by omega)
    have hx0 : l.getD j 0 ≠ 0 := by
      rcases hn with hn | hn
      · omega
      · rw [hj] at hn; exact hn
    have hx1 := ho j (by omega)
    have W := fun k hk h1 h2 => bits_words ho h0 k hk h1 h2
    rw [hj, Nat.add_sub_cancel] at W
    rw [hj]
    generalize l.getD j 0 = x at *
    have HW : Hid (∀ k, 1 ≤ k → 2 ^ (k - 1) ≤ x → x < 2 ^ k → Bits (val l) (j * 32 + k)) := W
    have hne : ((j : Int) + 1 == 0) = false := by simp; omega
    have hj2 : (j : Int) < 35184372088832 := by omega
    have Hj : Hid (l.length = j + 1) := hj
    clear hc hn W h ho hj hcap
    go_enter Tryz.func92, Tryz.ntmps92
    go_wp2
    go_loop [3, 4] (fun tn tt => ∃ k t : Nat, k ≤ 32 ∧ (t : Int) < 4294967296 ∧ tn = .int .i64 k ∧ tt = .int .u32 t ∧ Hid (t = x / 2 ^ k ∧ (1 ≤ k → 2 ^ (k - 1) ≤ x))) (fun _ tt => (RowKit.intOf tt).toNat)
    case atStart => exact ⟨0, x, by omega, by omega, rfl, rfl, by simp, fun h => by omega⟩
    case round =>
      obtain ⟨k, t, hk, ht, rfl, rfl, Hk⟩ := hrel
      by_cases hz : t = 0
      · subst hz
        have R : Hid (Bits (val l) (j * 32 + k)) := by
          have h1 := Hk.out.1.symm
          have h2 : x < 2 ^ k := by
            rcases Nat.div_eq_zero_iff.1 h1 with h | h
            · have := Nat.two_pow_pos k; omega
            · exact h
          have hk1 : 1 ≤ k := by
            rcases Nat.eq_zero_or_pos k with rfl | h
            · simp at h2; omega
            · exact h
          exact HW.out k hk1 (Hk.out.2 hk1) h2
        clear Hk HW
        go_wp2
        go_ret
        exact ⟨⟨j * 32 + k, by go_num, R.out⟩, rfl⟩
      · have t1 : ((t : Int) != 0) = true := by simp; omega
        have hk32 : k < 32 := by
          apply Classical.byContradiction
          intro hn
          have h1 := Hk.out.1
          have hk' : k = 32 := by omega
          subst hk'
          rw [Nat.div_eq_of_lt (by omega)] at h1
          exact hz h1
        have R : Hid (t / 2 = x / 2 ^ (k + 1) ∧ (1 ≤ k + 1 → 2 ^ (k + 1 - 1) ≤ x)) := by
          refine ⟨half_step x k t Hk.out.1, fun _ => ?_⟩
          rw [Nat.add_sub_cancel]
          apply Classical.byContradiction
          intro hn
          exact hz (by rw [Hk.out.1]; exact Nat.div_eq_of_lt (by omega))
        have e2 : (t : Int) / 2 = ((t / 2 : Nat) : Int) := by omega
        have h5 : t / 2 < t := by omega
        have h6 : (t / 2 : Nat) < 4294967296 := by omega
        generalize hq : t / 2 = q at *
        clear Hk HW hq
        go_wp2
        go_round
        case rel => exact ⟨k + 1, q, by omega, by omega, by go_num, rfl, R⟩
        case measure => simp [RowKit.intOf]; omega
end Go.Proofs.YtioegjmcpjnmnaaGreatDoor

namespace Go.Proofs.YtioegjmcpjnmnaaGreatDoor
set_option linter.unusedVariables false
open Go.RowKit Big

theorem or_word (x0 x1 : Nat) (h0 : x0 < 4294967296) (h1 : x1 < 4294967296) : bits .or .u64 (x0 : Int) ((x1 * 4294967296 : Nat) : Int) = ((x0 + 4294967296 * x1 : Nat) : Int) := by
  rw [bits_or_u64_nat _ _ (by omega) (by omega)]
  have := Nat.two_pow_add_eq_or_of_lt (i := 32) (b := x0) (by omega) x1
  rw [Nat.or_comm, Nat.mul_comm x1 4294967296, Nat.add_comm]
  exact congrArg _ this.symm

set_option maxHeartbeats 1000000 in
theorem uint64_any (p : Nat) (neg : Bool) (v : Value) (l : List Nat) (w : World) (h : IsBig w p neg v l) (hl : l.length ≤ 2) :
    Calls Tryz.prog 59 #[.pointer (some ⟨p, 0, none⟩)] w fun e w' => e = .returned (.int .u64 (val l : Nat)) ∧ w' = w := by
  have c1 := blk_cell1 h.blk
  have ho := h.wd.ok
  rcases h.wd.at_ with ⟨h0, a, cap, hv⟩ | ⟨h0, b, off, cap, hv, hb, hcap, hc⟩
  · subst h0; subst hv
    clear h ho
    go_enter Tryz.func59, Tryz.ntmps59
    go_wp2
    go_ret
    exact ⟨rfl, rfl⟩
  · subst hv
    match l, h0, hl with
    | [x0], _, _ =>
      have k0 : w.cell? ⟨b, off, none⟩ = some (.int .u32 (x0 : Nat)) := by first | (simp; done) | simpa using hc 0 (by simp)
      have b0 : x0 < 4294967296 := by simpa using ho 0 (by simp)
      have b0' : (x0 : Int) < 4294967296 := by omega
      have c1' : w.cell? ⟨p, 1, none⟩ = some (.slice (some ⟨b, off, none⟩) 1 cap) := c1
      have E : Hid (val [x0] = x0) := by simp [Hid, val]
      clear h ho hc c1 b0
      go_enter Tryz.func59, Tryz.ntmps59
      go_wp2
      go_ret
      exact ⟨by rw [E.out]; rfl, rfl⟩
    | [x0, x1], _, _ =>
      have k0 : w.cell? ⟨b, off, none⟩ = some (.int .u32 (x0 : Nat)) := by first | (simp; done) | simpa using hc 0 (by simp)
      have k1 : w.cell? ⟨b, off + 1, none⟩ = some (.int .u32 (x1 : Nat)) := by simpa using hc 1 (by simp)
      have b0 : x0 < 4294967296 := by simpa using ho 0 (by simp)
      have b1 : x1 < 4294967296 := by simpa using ho 1 (by simp)
      have c1' : w.cell? ⟨p, 1, none⟩ = some (.slice (some ⟨b, off, none⟩) 2 cap) := c1
      have e1 : (x1 : Int) * 4294967296 = ((x1 * 4294967296 : Nat) : Int) := by omega
      have e2 := or_word x0 x1 b0 b1
      have E : Hid (val [x0, x1] = x0 + 4294967296 * x1) := by simp [Hid, val]
      have b0' : (x0 : Int) < 4294967296 := by omega
      have b1' : (x1 : Int) < 4294967296 := by omega
      generalize x1 * 4294967296 = s at *
      generalize x0 + 4294967296 * x1 = t at *
      clear h ho hc c1 b0 b1
      go_enter Tryz.func59, Tryz.ntmps59
      go_wp2
      go_ret
      exact ⟨by rw [E.out]; rfl, rfl⟩

theorem int64_any (p : Nat) (neg : Bool) (v : Value) (l : List Nat) (w : World) (h : IsBig w p neg v l) (hl : l.length ≤ 2) (h1 : -9223372036854775808 ≤ sg neg (val l)) (h2 : sg neg (val l) ≤ 9223372036854775807) :
    Calls Tryz.prog 36 #[.pointer (some ⟨p, 0, none⟩)] w fun e w' => e = .returned (.int .i64 (sg neg (val l))) ∧ w' = w := by
  have c0 := blk_cell0 h.blk
  have H : Hid (IsBig w p neg v l) := h
  clear h
  generalize hn : val l = n at *
  have Hn : Hid (val l = n) := hn
  clear hn
  cases neg
  · go_enter Tryz.func36, Tryz.ntmps36
    go_wp2_with fail
    refine (uint64_any p _ v l w H.out hl).mono ?_
    rintro e w' ⟨rfl, hw⟩
    rw [hw, Hn.out]; clear hw w'
    have b1 : (n : Int) ≤ 9223372036854775807 := by simpa [sg] using h2
    clear h1 h2
    go_wp2
    go_ret
    exact ⟨rfl, rfl⟩
  · go_enter Tryz.func36, Tryz.ntmps36
    go_wp2_with fail
    refine (uint64_any p _ v l w H.out hl).mono ?_
    rintro e w' ⟨rfl, hw⟩
    rw [hw, Hn.out]; clear hw w'
    have b1 : (n : Int) ≤ 9223372036854775808 := by have : -9223372036854775808 ≤ -(n : Int) := by simpa [sg] using h1
                                                    omega
    have e1 : wrap64 (-wrap64 (n : Int)) = -(n : Int) := by unfold wrap64; omega
    clear h1 h2
    go_wp2
    go_ret
    refine ⟨?_, rfl⟩
    first | exact congrArg (fun z => Ending.returned (.int .i64 z)) e1 | rfl
end Go.Proofs.YtioegjmcpjnmnaaGreatDoor

namespace Go.Proofs.YtioegjmcpjnmnaaGreatDoor
set_option linter.unusedVariables false
open Go.RowKit Big

set_option maxHeartbeats 1000000 in
theorem plain_any (v : Value) (l : List Nat) (w : World) (h : Wd w v l) (hl : l.length ≤ 2) :
    Calls Tryz.prog 91 #[v] w fun e w' => e = .returned (.int .u64 (val l : Nat)) ∧ w' = w := by
  have ho := h.ok
  rcases h.at_ with ⟨h0, a, cap, hv⟩ | ⟨h0, b, off, cap, hv, hb, hcap, hc⟩
  · subst h0; subst hv
    clear h ho
    go_enter Tryz.func91, Tryz.ntmps91
    go_wp2
    go_ret
    exact ⟨rfl, rfl⟩
  · subst hv
    match l, h0, hl with
    | [x0], _, _ =>
      have k0 : w.cell? ⟨b, off, none⟩ = some (.int .u32 (x0 : Nat)) := by first | (simp; done) | simpa using hc 0 (by simp)
      have b0 : x0 < 4294967296 := by simpa using ho 0 (by simp)
      have b0' : (x0 : Int) < 4294967296 := by omega
      have E : Hid (val [x0] = x0) := by simp [Hid, val]
      show Calls _ _ #[.slice (some ⟨b, off, none⟩) 1 cap] _ _
      clear h ho hc b0
      go_enter Tryz.func91, Tryz.ntmps91
      go_wp2
      go_ret
      exact ⟨by rw [E.out]; rfl, rfl⟩
    | [x0, x1], _, _ =>
      have k0 : w.cell? ⟨b, off, none⟩ = some (.int .u32 (x0 : Nat)) := by first | (simp; done) | simpa using hc 0 (by simp)
      have k1 : w.cell? ⟨b, off + 1, none⟩ = some (.int .u32 (x1 : Nat)) := by simpa using hc 1 (by simp)
      have b0 : x0 < 4294967296 := by simpa using ho 0 (by simp)
      have b1 : x1 < 4294967296 := by simpa using ho 1 (by simp)
      have e1 : (x1 : Int) * 4294967296 = ((x1 * 4294967296 : Nat) : Int) := by omega
      have e2 := or_word x0 x1 b0 b1
      have E : Hid (val [x0, x1] = x0 + 4294967296 * x1) := by simp [Hid, val]
      have b0' : (x0 : Int) < 4294967296 := by omega
      have b1' : (x1 : Int) < 4294967296 := by omega
      generalize x1 * 4294967296 = s at *
      generalize x0 + 4294967296 * x1 = t at *
      show Calls _ _ #[.slice (some ⟨b, off, none⟩) 2 cap] _ _
      clear h ho hc b0 b1
      go_enter Tryz.func91, Tryz.ntmps91
      go_wp2
      go_ret
      exact ⟨by rw [E.out]; rfl, rfl⟩

/-- The sign of a number. -/
def sgnV (neg : Bool) (n : Nat) : Int := if n = 0 then 0 else if neg then -1 else 1

theorem val_drop (l : List Nat) (j : Nat) (h : j < l.length) : val (l.drop j) = l.getD j 0 + 4294967296 * val (l.drop (j + 1)) := by
  have h2 : l.drop j = l.getD j 0 :: l.drop (j + 1) := by rw [List.drop_eq_getElem_cons h]; simp [h]
  rw [h2]; rfl

/-- A round of the division by one word. -/
theorem small_step (a q : List Nat) (j d r : Nat) (hd : 0 < d) (ha : j < a.length) (hq : j < q.length) (hv : val (q.drop (j + 1)) = val (a.drop (j + 1)) / d) (hr : r = val (a.drop (j + 1)) % d) :
    val ((q.set j ((r * 4294967296 + a.getD j 0) / d)).drop j) = val (a.drop j) / d ∧ (r * 4294967296 + a.getD j 0) % d = val (a.drop j) % d := by
  have e1 := val_drop a j ha
  have e2 := val_drop (q.set j ((r * 4294967296 + a.getD j 0) / d)) j (by simpa using hq)
  have e5 : (q.set j ((r * 4294967296 + a.getD j 0) / d)).drop (j + 1) = q.drop (j + 1) := List.drop_set_of_lt (by omega)
  rw [getD_set_same q j _ hq, e5, hv] at e2
  have e3 := Nat.div_add_mod (val (a.drop (j + 1))) d
  rw [← hr] at e3
  generalize val (a.drop (j + 1)) / d = Q at *
  generalize val (a.drop (j + 1)) = V at *
  generalize a.getD j 0 = x at *
  have e4 : x + 4294967296 * V = r * 4294967296 + x + d * (4294967296 * Q) := by
    rw [← e3, Nat.mul_add, ← Nat.mul_assoc, Nat.mul_comm 4294967296 d, Nat.mul_assoc]
    omega
  rw [e1, e2, e4, Nat.add_mul_div_left _ _ hd, Nat.add_mul_mod_self_left]
  exact ⟨rfl, rfl⟩

theorem or_word' (r x : Nat) (h0 : r < 4294967296) (h1 : x < 4294967296) : bits .or .u64 ((r * 4294967296 : Nat) : Int) (x : Int) = ((r * 4294967296 + x : Nat) : Int) := by
  rw [bits_or_u64_nat _ _ (by omega) (by omega)]
  have := Nat.two_pow_add_eq_or_of_lt (i := 32) (b := x) (by omega) r
  rw [Nat.mul_comm r 4294967296]
  exact congrArg _ this.symm

theorem shl_lt (r x : Nat) (hr : r < 4294967296) (hx : x < 4294967296) : r * 4294967296 + x < 18446744073709551616 ∧ r * 4294967296 < 18446744073709551616 := by omega

set_option maxHeartbeats 2000000 in
theorem small_div (va : Value) (a : List Nat) (d : Nat) (w : World) (ha : Wd w va a) (hd : 0 < d) (hd2 : d < 4294967296) (hlen : a.length < 35184372088832) :
    Calls Tryz.prog 88 #[va, .int .u32 (d : Int)] w fun e w' => ∃ v l, e = .returned (.tuple #[v, .int .u32 ((val a % d : Nat) : Int)]) ∧ Wd w' v l ∧ Nrm l ∧ val l = val a / d ∧ w.grownBy w' none := by
  obtain ⟨aa, ca, rfl, la, Oa, Fa⟩ := ha.form
  clear ha la
  have hmk := fun w => run_make_row' (P := Tryz.prog) 84 115 (.int .u32 0) 4 Tryz.underlying84 Tryz.infoW rfl .i64 .i64 a.length (by omega) (by omega) w
  have hdz : ((d : Int) == 0) = false := by simp; omega
  have hdp : (0 : Int) < d := by omega
  have hd3 : (d : Int) < 4294967296 := by omega
  go_enter Tryz.func88, Tryz.ntmps88
  go_wp2
  clear hmk
  go_loopw [7, 8] (fun tr ti wr => ∃ m r : Nat, ∃ q : List Nat, m ≤ a.length ∧ (r : Int) < d ∧ tr = .int .u64 r ∧ ti = .int .i64 ((m : Int) - 1) ∧ q.length = a.length ∧ Hid (RowAt wr w.heap.size q) ∧ Hid (Ok q) ∧ Hid (w.grownBy wr none) ∧ Hid (val (q.drop m) = val (a.drop m) / d ∧ r = val (a.drop m) % d)) (fun _ ti _ => (RowKit.intOf ti + 1).toNat)
  case atStart =>
    refine ⟨a.length, 0, List.replicate a.length 0, Nat.le_refl _, by omega, rfl, rfl, by simp, ?_, ok_replicate _, World.grownBy_alloc _ _ _, ?_⟩
    · show (w.alloc _).heap[w.heap.size]? = _
      rw [alloc_blk, made_row]
    · refine ⟨?_, ?_⟩
      · rw [List.drop_of_length_le (by simp), List.drop_length]; simp [val]
      · rw [List.drop_length]; simp [val]
  case round =>
    obtain ⟨m, r, q, hm, hr, rfl, rfl, hq, Hrow, Hok, Hg, Hv⟩ := hrel
    cases m with
    | succ j =>
      rw [show ((j + 1 : Nat) : Int) - 1 = (j : Int) by omega]
      obtain ⟨ba, oa, rfl, hba, hca⟩ := Fa.out (by omega)
      have hxa := (Hg.out.cell (hca j (by omega)) (by simp))
      have hxb := Oa.out j (by omega)
      have S := small_step a q j d r hd (by omega) (by omega) Hv.out.1 Hv.out.2
      have rc := row_cell Hrow.out (i := j) (by omega)
      have rf := row_frozen Hrow.out j
      generalize a.getD j 0 = x at *
      generalize q.getD j 0 = z at *
      have e1 : (r : Int) * 4294967296 = ((r * 4294967296 : Nat) : Int) := by omega
      have e2 := or_word' r x (by omega) hxb
      have b1 : (r * 4294967296 + x) / d < 4294967296 := by
        rw [Nat.div_lt_iff_lt_mul hd]
        have : (r + 1) * 4294967296 ≤ d * 4294967296 := Nat.mul_le_mul_right _ (by omega)
        omega
      have b2 : (r * 4294967296 + x) % d < d := Nat.mod_lt _ hd
      have b3 := (shl_lt r x (by omega) hxb).1
      have b4 := (shl_lt r x (by omega) hxb).2
      obtain ⟨s, hs⟩ : ∃ s, s = r * 4294967296 := ⟨_, rfl⟩
      rw [← hs] at e1 e2 S b1 b2 b3 b4
      obtain ⟨t, ht⟩ : ∃ t, t = s + x := ⟨_, rfl⟩
      rw [← ht] at e2 S b1 b2 b3
      have e3 : (t : Int) / d = ((t / d : Nat) : Int) := by rw [Int.natCast_ediv]
      have e4 : (t : Int) % d = ((t % d : Nat) : Int) := by rw [Int.natCast_emod]
      generalize t / d = qd at *
      generalize t % d = rd at *
      have HS : Hid (val ((q.set j qd).drop j) = val (a.drop j) / d ∧ rd = val (a.drop j) % d) := S
      have i1 : (x : Int) < 4294967296 := by omega
      have i2 : (t : Int) < 18446744073709551616 := by omega
      have i3 : (s : Int) < 18446744073709551616 := by omega
      have i4 : (qd : Int) < 4294967296 := by omega
      have i5 : (j : Int) < a.length := by omega
      have B1 : Hid (qd < 4294967296) := b1
      have B2 : Hid (rd < d) := b2
      clear S hca Hv hxb hs ht b1 b2 b3 b4
      go_wp2
      go_roundw
      case rel => exact ⟨j, rd, q.set j qd, by omega, by have := B2.out; omega, by rw [e4], by go_num, by simpa using hq, row_set Hrow.out j qd, ok_set Hok.out j qd B1.out, gset Hg.out (Nat.le_refl _) _, HS⟩
      case measure => simp [RowKit.intOf]
    | zero =>
      have hV := Hv.out
      simp only [List.drop_zero] at hV
      have Hnew : Hid (Wd wr (.slice (some ⟨w.heap.size, 0, none⟩) a.length a.length) q) := by
        have := row_wd Hrow.out Hok.out (by omega) a.length (by omega)
        rw [hq] at this
        exact this
      have HV : Hid (val q = val a / d ∧ r = val a % d) := hV
      clear Hv Hrow Hok hV
      have i1 : (r : Int) < 4294967296 := by omega
      go_wp2_with fail
      refine (trim_any _ q _ Hnew.out).mono ?_
      rintro e w' ⟨⟨v', rfl, hv⟩, hw⟩
      rw [hw]; clear hw w' Hnew
      have R : Hid (Wd wr v' (q.take (tl q q.length)) ∧ Nrm (q.take (tl q q.length)) ∧ val (q.take (tl q q.length)) = val a / d) := by
        refine ⟨hv, nrm_tl _ _ (Nat.le_refl _), ?_⟩
        rw [val_tl _ _ (Nat.le_refl _), List.take_length]
        exact HV.out.1
      clear hv
      go_wp2
      go_ret2
      exact ⟨_, _, by rw [← HV.out.2]; rfl, R.out.1, R.out.2.1, R.out.2.2, Hg.out⟩
end Go.Proofs.YtioegjmcpjnmnaaGreatDoor

namespace Go.Proofs.YtioegjmcpjnmnaaGreatDoor
set_option linter.unusedVariables false
open Go.RowKit Big

/-- A bit of a number is a bit of one of its words. -/
theorem word_bit {l : List Nat} (ho : Ok l) (k j : Nat) (hj : j < 32) (hk : k < l.length) : val l / 2 ^ (32 * k + j) % 2 = l.getD k 0 / 2 ^ j % 2 := by
  have e : val l = val (l.take k) + 4294967296 ^ k * (l.getD k 0 + 4294967296 * val (l.drop (k + 1))) := by
    have h1 := val_append (l.take k) (l.drop k)
    rw [List.take_append_drop, List.length_take, Nat.min_eq_left (Nat.le_of_lt hk)] at h1
    have h2 : l.drop k = l.getD k 0 :: l.drop (k + 1) := by rw [List.drop_eq_getElem_cons hk]; simp [hk]
    rw [h1, h2]; rfl
  have hlt := val_lt (ok_take ho k)
  rw [List.length_take, Nat.min_eq_left (Nat.le_of_lt hk)] at hlt
  have hB : 0 < 4294967296 ^ k := Nat.pow_pos (by omega)
  rw [Nat.pow_add, ← pow32, ← Nat.div_div_eq_div_mul, e, Nat.add_mul_div_left _ _ hB, Nat.div_eq_of_lt hlt, Nat.zero_add]
  have e2 : 4294967296 = 2 ^ j * (2 * 2 ^ (31 - j)) := by
    rw [show 2 * 2 ^ (31 - j) = 2 ^ (32 - j) by rw [← Nat.pow_succ']; congr 1; omega, ← Nat.pow_add, show j + (32 - j) = 32 by omega]
  have hJ := Nat.two_pow_pos j
  rw [show l.getD k 0 + 4294967296 * val (l.drop (k + 1)) = l.getD k 0 + 2 ^ j * (2 * (2 ^ (31 - j) * val (l.drop (k + 1)))) by
    rw [← Nat.mul_assoc 2, ← Nat.mul_assoc (2 ^ j), ← e2], Nat.add_mul_div_left _ _ hJ, Nat.add_mul_mod_self_left]

/-- Bit i of a number. -/
def bitOf (n i : Nat) : Nat := n / 2 ^ i % 2

theorem first_bit (n i : Nat) (h : ∀ k, k < i → bitOf n k = 0) : n % 2 ^ i = 0 := by
  induction i with
  | zero => simp [Nat.mod_one]
  | succ i ih =>
    have h1 := ih (fun k hk => h k (by omega))
    have h2 := h i (by omega)
    unfold bitOf at h2
    have hp := Nat.two_pow_pos i
    obtain ⟨q, hq⟩ := Nat.dvd_of_mod_eq_zero h1
    rw [hq, Nat.mul_div_cancel_left _ hp] at h2
    obtain ⟨t, ht⟩ := Nat.dvd_of_mod_eq_zero h2
    rw [hq, ht, Nat.pow_succ, ← Nat.mul_assoc]
    exact Nat.mul_mod_right _ _

/-- Of a number of just 64 bits. -/
theorem tz_facts (n i : Nat) (h1 : 9223372036854775808 ≤ n) (h2 : n < 18446744073709551616) (hz : ∀ k, k < i → bitOf n k = 0) (hi : bitOf n i = 1) : i ≤ 63 ∧ (i = 63 ↔ n = 9223372036854775808) := by
  have top : bitOf n 63 = 1 := by
    unfold bitOf
    have : n / 2 ^ 63 = 1 := by
      apply Nat.div_eq_of_lt_le <;> omega
    rw [this]
  have hle : i ≤ 63 := by
    apply Classical.byContradiction
    intro hn
    have := hz 63 (by omega)
    omega
  refine ⟨hle, ?_, ?_⟩
  · rintro rfl
    have := first_bit n 63 hz
    omega
  · rintro rfl
    apply Classical.byContradiction
    intro hn
    have h3 : i < 63 := by omega
    have e : (9223372036854775808 : Nat) = 2 ^ i * (2 * 2 ^ (62 - i)) := by
      rw [show 2 * 2 ^ (62 - i) = 2 ^ (63 - i) by rw [← Nat.pow_succ']; congr 1; omega, ← Nat.pow_add, show i + (63 - i) = 63 by omega]
    unfold bitOf at hi
    rw [e, Nat.mul_div_cancel_left _ (Nat.two_pow_pos i)] at hi
    omega
end Go.Proofs.YtioegjmcpjnmnaaGreatDoor

namespace Go.Proofs.YtioegjmcpjnmnaaGreatDoor
set_option linter.unusedVariables false
open Go.RowKit Big

theorem top_bit (n : Nat) (h1 : 9223372036854775808 ≤ n) (h2 : n < 18446744073709551616) : bitOf n 63 = 1 := by
  unfold bitOf
  have : n / 2 ^ 63 = 1 := by
    apply Nat.div_eq_of_lt_le <;> omega
  rw [this]

theorem bit01 (n i : Nat) : bitOf n i = 0 ∨ bitOf n i = 1 := by unfold bitOf; omega

theorem len_two {l : List Nat} (ho : Ok l) (hn : Nrm l) (h2 : val l < 18446744073709551616) : l.length ≤ 2 := by
  rcases Nat.eq_zero_or_pos l.length with h0 | h0
  · omega
  · have h3 := val_ge hn h0
    apply Classical.byContradiction
    intro hc
    have : 4294967296 ^ 2 ≤ 4294967296 ^ (l.length - 1) := Nat.pow_le_pow_right (by omega) (by omega)
    omega
theorem len_two' {l : List Nat} (ho : Ok l) (h1 : 9223372036854775808 ≤ val l) : 2 ≤ l.length := by
  have h3 := val_lt ho
  apply Classical.byContradiction
  intro hc
  have : 4294967296 ^ l.length ≤ 4294967296 ^ 1 := Nat.pow_le_pow_right (by omega) (by omega)
  omega

/-- Is it of 64 bits? -/
def Fits (x : Int) : Prop := -9223372036854775808 ≤ x ∧ x ≤ 9223372036854775807

end Go.Proofs.YtioegjmcpjnmnaaGreatDoor
