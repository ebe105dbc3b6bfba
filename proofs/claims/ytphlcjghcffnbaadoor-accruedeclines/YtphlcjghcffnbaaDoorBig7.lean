/-
  The contract of quarterdaybig's sum: two numbers with their signs, added up.
-/
import Derived.Test.YtphlcjghcffnbaaDoorBig6
namespace Go.Proofs.YtphlcjghcffnbaaDoor
set_option linter.unusedVariables false
open Go.RowKit Big

theorem sg_cut (neg : Bool) (l : List Nat) (n : Nat) (h : l.length = 0 → n = 0) : sg (neg && decide (0 < l.length)) n = sg neg n := by
  rcases Nat.eq_zero_or_pos l.length with h0 | h0
  · rw [h h0]; simp [sg]
  · simp [h0]

set_option maxHeartbeats 1000000 in
theorem sum_bigs (xn yn : Bool) (va vb : Value) (a b : List Nat) (w : World) (ha : Wd w va a) (hb : Wd w vb b) (na : Nrm a) (nb : Nrm b) (h1 : a.length < 35184372088832) (h2 : b.length < 35184372088832) :
    Calls Tryd.prog 26 #[.bool xn, va, .bool yn, vb] w fun e w' => ∃ neg v l, e = .returned (.tuple #[.bool neg, v]) ∧ Wd w' v l ∧ Nrm l ∧ sg neg (val l) = sg xn (val a) + sg yn (val b) ∧ w.grownBy w' none := by
  have Ha : Hid (Wd w va a) := ha
  have Hb : Hid (Wd w vb b) := hb
  have Na : Hid (Nrm a) := na
  have Nb : Hid (Nrm b) := nb
  clear ha hb na nb
  by_cases hs : xn = yn
  · subst hs
    go_enter Tryd.func26, Tryd.ntmps26
    go_wp2_with fail
    refine (add_any va vb a b w Ha.out Hb.out h1 h2).mono ?_
    rintro e w1 ⟨v, l, rfl, hv, hn, hval, hg⟩
    have R : Hid (Wd w1 v l ∧ Nrm l ∧ sg xn (val l) = sg xn (val a) + sg xn (val b) ∧ w.grownBy w1 none) := ⟨hv, hn, by rw [hval]; unfold sg; cases xn <;> simp <;> omega, hg⟩
    clear hv hn hval hg
    go_wp2
    go_ret2
    exact ⟨xn, v, l, rfl, R.out.1, R.out.2.1, R.out.2.2.1, R.out.2.2.2⟩
  · have hs' : (xn == yn) = false := by simpa using hs
    by_cases hge : val b ≤ val a
    · have hc : Hid (0 ≤ cmpV (val a) (val b)) := by
        unfold Hid cmpV; rw [if_neg (by omega)]; split <;> omega
      have hll := len_le Ha.out.ok Nb.out hge
      go_enter Tryd.func26, Tryd.ntmps26
      go_wp2_with fail
      refine (cmp_any va vb a b w Ha.out Hb.out Na.out Nb.out).mono ?_
      rintro e w1 ⟨rfl, n, hw⟩
      rw [hw]; clear hw w1
      have hc' := hc.out
      generalize cmpV (val a) (val b) = q at *
      clear hc
      go_wp2_with fail
      refine (sub_any va vb a b _ (Ha.out.grow (gdrewN (grefl w _) n)) (Hb.out.grow (gdrewN (grefl w _) n)) hge hll h1).mono ?_
      rintro e w1 ⟨v, l, rfl, hv, hn, hval, hg⟩
      have R : Hid (Wd w1 v l ∧ Nrm l ∧ sg xn (val l) = sg xn (val a) + sg yn (val b) ∧ w.grownBy w1 none) := ⟨hv, hn, by rw [hval]; unfold sg; cases xn <;> cases yn <;> simp at hs ⊢ <;> omega, gtrans (gdrewN (grefl w _) n) hg⟩
      clear hv hn hval hg
      go_wp2
      go_ret2
      exact ⟨xn, v, l, rfl, R.out.1, R.out.2.1, R.out.2.2.1, R.out.2.2.2⟩
    · have hc : Hid (cmpV (val a) (val b) < 0) := by
        unfold Hid; rw [cmpV_lt (by omega)]; omega
      have hll := len_le Hb.out.ok Na.out (by omega)
      go_enter Tryd.func26, Tryd.ntmps26
      go_wp2_with fail
      refine (cmp_any va vb a b w Ha.out Hb.out Na.out Nb.out).mono ?_
      rintro e w1 ⟨rfl, n, hw⟩
      rw [hw]; clear hw w1
      have hc' := hc.out
      generalize cmpV (val a) (val b) = q at *
      clear hc
      go_wp2_with fail
      refine (sub_any vb va b a _ (Hb.out.grow (gdrewN (grefl w _) n)) (Ha.out.grow (gdrewN (grefl w _) n)) (by omega) hll h2).mono ?_
      rintro e w1 ⟨v, l, rfl, hv, hn, hval, hg⟩
      have R : Hid (Wd w1 v l ∧ Nrm l ∧ sg yn (val l) = sg xn (val a) + sg yn (val b) ∧ w.grownBy w1 none) := ⟨hv, hn, by rw [hval]; unfold sg; cases xn <;> cases yn <;> simp at hs ⊢ <;> omega, gtrans (gdrewN (grefl w _) n) hg⟩
      clear hv hn hval hg
      go_wp2
      go_ret2
      exact ⟨yn, v, l, rfl, R.out.1, R.out.2.1, R.out.2.2.1, R.out.2.2.2⟩
end Go.Proofs.YtphlcjghcffnbaaDoor
