/-
  The contracts of quarterdaybig's twin, and of div where the divisor is of one word.
-/
import Derived.Test.YtphlcjghcffnbaaDoorBigTw
import Derived.Test.YtphlcjghcffnbaaDoorBig8
import Derived.Test.YtphlcjghcffnbaaDoorBig14
import Derived.Test.YtphlcjghcffnbaaDoorBig6
import Derived.Test.YtphlcjghcffnbaaDoorBig12
import Derived.Laws.AppendOwn
import Derived.OwnWalk
import Derived.Deep.RegionWith
namespace Go.Proofs.YtphlcjghcffnbaaDoor
set_option linter.unusedVariables false
set_option linter.unusedSimpArgs false
open Go.RowKit Big

/-- What a division leaves. -/
def DivEnd (w : World) (a b : Nat) (e : Ending) (w' : World) : Prop := ∃ q r lq lr, e = .returned (.tuple #[q, r]) ∧ Hid (Wd w' q lq ∧ Wd w' r lr ∧ Nrm lq ∧ Nrm lr ∧ val lq = a / b ∧ val lr = a % b ∧ w.grownBy w' none)

set_option maxRecDepth 100000 in
set_option maxHeartbeats 2000000 in
theorem div_less (va vb : Value) (a b : List Nat) (w : World) (ha : Wd w va a) (hb : Wd w vb b) (na : Nrm a) (nb : Nrm b) (h0 : 0 < b.length) (hl : a.length < 35184372088832) (hlt : val a < val b) :
    Calls Tryd.prog 45 #[va, vb] w (DivEnd w (val a) (val b)) := by
  have Cm : Hid (Calls Tryd.prog 43 #[va, vb] w fun e w' => e = .returned (.int .i64 (-1)) ∧ ∃ n, w' = w.drewN n) := by
    have := cmp_any va vb a b w ha hb na nb
    rw [cmpV_lt hlt] at this
    exact this
  have Tw : Hid (∀ n, Calls Tryd.prog 44 #[va] (w.drewN n) fun e w' => ∃ v', e = .returned v' ∧ Hid (Wd w' v' a ∧ w.grownBy w' none)) := fun n => by
    refine (twin_any va a (w.drewN n) (ha.grow (gdrewN (grefl _ _) n)) hl).mono ?_
    rintro e w' ⟨v', rfl, hv⟩
    exact ⟨v', rfl, hv.out.1, gtrans (gdrewN (grefl _ _) n) hv.out.2⟩
  have E : Hid (val a / val b = 0 ∧ val a % val b = val a ∧ Nrm a) := ⟨Nat.div_eq_of_lt hlt, Nat.mod_eq_of_lt hlt, na⟩
  obtain ⟨aa, ca, rfl, la, Oa, Fa⟩ := ha.form
  obtain ⟨ab, cb, rfl, lb, Ob, Fb⟩ := hb.form
  have n2 : ((b.length : Int) == 0) = false := by rw [beq_eq_false_iff_ne]; omega
  clear ha hb na nb hlt Fa Fb Oa Ob
  go_enter Tryd.func45, Tryd.ntmps45
  go_wp2_with fail
  refine Cm.out.mono ?_
  rintro e w' ⟨rfl, n, hw⟩
  rw [hw]; clear hw w' Cm
  go_wp2_with fail
  refine (Tw.out n).mono ?_
  rintro e w1 ⟨v', rfl, hR⟩
  clear Tw
  go_wp2
  go_ret2
  refine ⟨_, _, [], a, rfl, wd_nil _ _ _, hR.out.1, .inl rfl, E.out.2.2, ?_, ?_, hR.out.2⟩
  · rw [E.out.1]; rfl
  · exact E.out.2.1.symm

theorem cmp_ge {a b : Nat} (h : b ≤ a) : cmpV a b = 0 ∨ cmpV a b = 1 := by
  unfold cmpV
  rw [if_neg (by omega)]
  split <;> simp

set_option maxRecDepth 100000 in
set_option maxHeartbeats 4000000 in
theorem div_two (va vb : Value) (a b : List Nat) (w : World) (ha : Wd w va a) (hb : Wd w vb b) (na : Nrm a) (nb : Nrm b) (h0 : 0 < b.length) (hl : a.length ≤ 2) (hge : val b ≤ val a) :
    Calls Tryd.prog 45 #[va, vb] w (DivEnd w (val a) (val b)) := by
  have hbl : b.length ≤ 2 := Nat.le_trans (len_le ha.ok nb hge) hl
  have lt64 : ∀ {l : List Nat}, Ok l → l.length ≤ 2 → val l < 18446744073709551616 := fun {l} ho h => by
    have h1 := val_lt ho
    have h2 : 4294967296 ^ l.length ≤ 4294967296 ^ 2 := Nat.pow_le_pow_right (by omega) h
    omega
  have x1 := lt64 ha.ok hl
  have y1 := lt64 hb.ok hbl
  have y0 : 0 < val b := by
    have h1 := val_ge nb h0
    have h2 := Nat.pow_pos (n := b.length - 1) (by omega : 0 < 4294967296)
    omega
  have Cm : Hid (∃ c : Int, (c = 0 ∨ c = 1) ∧ Calls Tryd.prog 43 #[va, vb] w fun e w' => e = .returned (.int .i64 c) ∧ ∃ n, w' = w.drewN n) := ⟨_, cmp_ge hge, cmp_any va vb a b w ha hb na nb⟩
  have Pa : Hid (∀ n, Calls Tryd.prog 56 #[va] (w.drewN n) fun e w' => e = .returned (.int .u64 (val a : Nat)) ∧ w' = w.drewN n) := fun n => plain_any va a _ (ha.grow (gdrewN (grefl _ _) n)) hl
  have Pb : Hid (∀ n, Calls Tryd.prog 56 #[vb] (w.drewN n) fun e w' => e = .returned (.int .u64 (val b : Nat)) ∧ w' = w.drewN n) := fun n => plain_any vb b _ (hb.grow (gdrewN (grefl _ _) n)) hbl
  obtain ⟨aa, ca, rfl, la, Oa, Fa⟩ := ha.form
  obtain ⟨ab, cb, rfl, lb, Ob, Fb⟩ := hb.form
  have n2 : ((b.length : Int) == 0) = false := by rw [beq_eq_false_iff_ne]; omega
  have n3 : (a.length : Int) ≤ 2 := by omega
  clear ha hb na nb hge Fa Fb Oa Ob lt64
  generalize val a = x at *
  generalize val b = y at *
  obtain ⟨c, hc, Cm⟩ := Cm.out
  have Cm2 : Hid (Calls Tryd.prog 43 #[.slice aa a.length ca, .slice ab b.length cb] w fun e w' => e = .returned (.int .i64 c) ∧ ∃ n, w' = w.drewN n) := Cm
  clear Cm
  have q1 : x / y < 18446744073709551616 := Nat.lt_of_le_of_lt (Nat.div_le_self _ _) x1
  have r1 : x % y < 18446744073709551616 := Nat.lt_of_le_of_lt (Nat.mod_le _ _) x1
  have Wq : Hid (∀ W, Calls Tryd.prog 55 #[.int .u64 ((x / y : Nat) : Int)] W fun e w' => ∃ v l, e = .returned v ∧ Wd w' v l ∧ Nrm l ∧ val l = x / y ∧ W.grownBy w' none) := fun W => words_any _ W q1
  have Wr : Hid (∀ W, Calls Tryd.prog 55 #[.int .u64 ((x % y : Nat) : Int)] W fun e w' => ∃ v l, e = .returned v ∧ Wd w' v l ∧ Nrm l ∧ val l = x % y ∧ W.grownBy w' none) := fun W => words_any _ W r1
  have yi : ((y : Int) == 0) = false := by rw [beq_eq_false_iff_ne]; omega
  have yn : ¬ (y : Int) = 0 := by omega
  have tq : (x : Int).tdiv y = ((x / y : Nat) : Int) := by rw [Int.tdiv_eq_ediv_of_nonneg (by omega)]; rfl
  have tr : (x : Int).tmod y = ((x % y : Nat) : Int) := by rw [Int.tmod_eq_emod_of_nonneg (by omega)]; rfl
  have eq : (x : Int) / y = ((x / y : Nat) : Int) := by rfl
  have er : (x : Int) % y = ((x % y : Nat) : Int) := by rfl
  have qq : ((x / y : Nat) : Int) < 18446744073709551616 := by omega
  have rr : ((x % y : Nat) : Int) < 18446744073709551616 := by omega
  have HQ : Hid (∀ q, q = x / y → q = x / y) := fun _ h => h
  generalize hQ : x / y = Q at *
  generalize hRm : x % y = R at *
  have HQ2 : Hid (x / y = Q ∧ x % y = R) := ⟨hQ, hRm⟩
  clear hQ hRm HQ
  rcases hc with rfl | rfl
  all_goals
    go_enter Tryd.func45, Tryd.ntmps45
    go_wp2_with fail
    refine Cm2.out.mono ?_
    rintro e w' ⟨rfl, n, hw⟩
    rw [hw]; clear hw w' Cm2
    go_wp2_with fail
    refine (Pa.out n).mono ?_
    rintro e w' ⟨rfl, hw⟩
    rw [hw]; clear hw w' Pa
    go_wp2_with fail
    refine (Pb.out n).mono ?_
    rintro e w' ⟨rfl, hw⟩
    rw [hw]; clear hw w' Pb
    go_wp2
    refine wp_region_any (by kernel_rfl) ?_
    refine wpAny_take (i := 0) (v := .int .u64 (x : Int)) rfl (by kernel_rfl) (by kernel_rfl) (by kernel_rfl) (fun _ _ _ h => h) (Or.inl ⟨by rfl, fun w => by go_simp⟩) ?_
    simp only [Act.put, List.setIfInBounds_toArray, List.set_cons_zero, List.set_cons_succ]
    refine wpAny_take (i := 1) (v := .int .u64 (y : Int)) rfl (by kernel_rfl) (by kernel_rfl) (by kernel_rfl) (fun _ _ _ h => h) (Or.inl ⟨by rfl, fun w => by go_simp⟩) ?_
    simp only [Act.put, List.setIfInBounds_toArray, List.set_cons_zero, List.set_cons_succ]
    refine wpAny_take (i := 2) (v := .int .u64 (Q : Int)) rfl (by kernel_rfl) (by kernel_rfl) (by kernel_rfl) (fun _ _ _ h => h) (Or.inl ⟨by rfl, fun w => by go_simp; rw [if_neg (by omega), IntKind.wrap_u64, Int.emod_eq_of_lt (by omega) (by omega)]⟩) ?_
    simp only [Act.put, List.setIfInBounds_toArray, List.set_cons_zero, List.set_cons_succ]
    refine wpAny_take (i := 4) (v := .int .u64 (x : Int)) rfl (by kernel_rfl) (by kernel_rfl) (by kernel_rfl) (fun _ _ _ h => h) (Or.inl ⟨by rfl, fun w => by go_simp⟩) ?_
    simp only [Act.put, List.setIfInBounds_toArray, List.set_cons_zero, List.set_cons_succ]
    refine wpAny_take (i := 5) (v := .int .u64 (y : Int)) rfl (by kernel_rfl) (by kernel_rfl) (by kernel_rfl) (fun _ _ _ h => h) (Or.inl ⟨by rfl, fun w => by go_simp⟩) ?_
    simp only [Act.put, List.setIfInBounds_toArray, List.set_cons_zero, List.set_cons_succ]
    refine wpAny_take (i := 6) (v := .int .u64 (R : Int)) rfl (by kernel_rfl) (by kernel_rfl) (by kernel_rfl) (fun _ _ _ h => h) (Or.inl ⟨by rfl, fun w => by go_simp; omega⟩) ?_
    simp only [Act.put, List.setIfInBounds_toArray, List.set_cons_zero, List.set_cons_succ]
    refine any_one (i := 3) (by kernel_rfl) ?_
    refine wpOp_step rfl (fun K hK => ?_)
    rw [if_pos (by rfl)]
    go_wp2_with fail
    refine (Wq.out _).mono ?_
    rintro e w1 ⟨v1, l1, rfl, hv1, hn1, hl1, hg1⟩
    refine hK _ _ ?_
    clear hK K Wq
    have H1 : Hid (Wd w1 v1 l1 ∧ Nrm l1 ∧ val l1 = Q ∧ w.grownBy w1 none) := ⟨hv1, hn1, hl1, ⟨hg1.os, hg1.tape, hg1.output, hg1.size, fun k hk hr => hg1.block k hk hr⟩⟩
    clear hv1 hn1 hl1 hg1
    refine any_one (i := 7) (by kernel_rfl) ?_
    refine wpOp_step rfl (fun K hK => ?_)
    rw [if_pos (by rfl)]
    go_wp2_with fail
    refine (Wr.out _).mono ?_
    rintro e w2 ⟨v2, l2, rfl, hv2, hn2, hl2, hg2⟩
    refine hK _ _ ?_
    clear hK K Wr
    have H2 : Hid (Wd w2 v1 l1 ∧ Wd w2 v2 l2 ∧ Nrm l1 ∧ Nrm l2 ∧ val l1 = x / y ∧ val l2 = x % y ∧ w.grownBy w2 none) := ⟨H1.out.1.grow hg2, hv2, H1.out.2.1, hn2, H1.out.2.2.1.trans HQ2.out.1.symm, hl2.trans HQ2.out.2.symm, gtrans H1.out.2.2.2 hg2⟩
    clear hv2 hn2 hl2 hg2 H1 HQ2
    refine any_one (i := 8) (by kernel_rfl) ?_
    refine wpOp_step rfl (fun K hK => ?_)
    rw [if_pos (by rfl)]
    have hK' : Shut (∀ a w, wpAny _ _ _ _ _ _ a w → K a w) := hK
    clear hK
    go_wp2
    refine hK'.out _ _ ?_
    clear hK' K
    refine any_one (i := 9) (by kernel_rfl) ?_
    refine wpOp_step rfl (fun K hK => ?_)
    rw [if_pos (by rfl)]
    have hK' : Shut (∀ a w, wpAny _ _ _ _ _ _ a w → K a w) := hK
    clear hK
    go_wp2
    refine hK'.out _ _ ?_
    clear hK' K
    refine wpAny_done (by kernel_rfl) ?_ _
    go_wp2
    go_ret2
    exact ⟨_, _, _, _, rfl, H2⟩
end Go.Proofs.YtphlcjghcffnbaaDoor
