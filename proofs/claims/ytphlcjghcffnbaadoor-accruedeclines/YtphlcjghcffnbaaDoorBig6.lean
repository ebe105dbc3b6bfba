/-
  The contract of quarterdaybig's cmp: which of two is the greater.
-/
import Derived.Test.YtphlcjghcffnbaaDoorBig5
import Derived.Deep.QuietTactic
import Derived.BigQuiet
namespace Go.Proofs.YtphlcjghcffnbaaDoor
set_option linter.unusedVariables false
open Go.RowKit Big

theorem drew2 (w : World) (a b : Nat) : (w.drewN a).drewN b = w.drewN (a + b) := by simp [World.drewN, Nat.add_assoc]

/-- -1, 0 or 1. -/
def cmpV (a b : Nat) : Int := if a < b then -1 else if b < a then 1 else 0
theorem cmpV_lt {a b : Nat} (h : a < b) : cmpV a b = -1 := by unfold cmpV; rw [if_pos h]
theorem cmpV_gt {a b : Nat} (h : b < a) : cmpV a b = 1 := by unfold cmpV; rw [if_neg (by omega), if_pos h]
theorem cmpV_eq {a b : Nat} (h : a = b) : cmpV a b = 0 := by unfold cmpV; rw [if_neg (by omega), if_neg (by omega)]

set_option maxHeartbeats 2000000 in
theorem cmp_any (va vb : Value) (a b : List Nat) (w : World) (ha : Wd w va a) (hb : Wd w vb b) (na : Nrm a) (nb : Nrm b) :
    Calls Tryd.prog 43 #[va, vb] w fun e w' => e = .returned (.int .i64 (cmpV (val a) (val b))) ∧ ∃ n, w' = w.drewN n := by
  obtain ⟨aa, ca, rfl, la, Oa, Fa⟩ := ha.form
  obtain ⟨ab, cb, rfl, lb, Ob, Fb⟩ := hb.form
  clear ha hb
  by_cases hlt : a.length < b.length
  · have R : Hid (cmpV (val a) (val b) = -1) := cmpV_lt (len_lt Oa.out nb hlt)
    have hne : ((a.length : Int) != b.length) = true := by simp; omega
    have hlt' : (a.length : Int) < b.length := by omega
    clear na nb
    go_enter Tryd.func43, Tryd.ntmps43
    go_wp2
    go_ret
    exact ⟨by rw [R.out]; rfl, 0, rfl⟩
  by_cases hgt : b.length < a.length
  · have R : Hid (cmpV (val a) (val b) = 1) := cmpV_gt (len_lt Ob.out na hgt)
    have hne : ((a.length : Int) != b.length) = true := by simp; omega
    have hlt' : ¬ ((a.length : Int) < b.length) := by omega
    clear na nb
    go_enter Tryd.func43, Tryd.ntmps43
    go_wp2
    go_ret
    exact ⟨by rw [R.out]; rfl, 0, rfl⟩
  have hlen : a.length = b.length := by omega
  have hne : ((a.length : Int) != b.length) = false := by simp; omega
  have Hlen : Hid (a.length = b.length) := hlen
  clear na nb hlt hgt hlen
  go_enter Tryd.func43, Tryd.ntmps43
  go_wp2
  go_loopw [5] (fun ti wr => ∃ m n : Nat, m ≤ a.length ∧ ti = .int .i64 ((m : Int) - 1) ∧ wr = w.drewN n ∧ Hid (a.drop m = b.drop m)) (fun ti _ => (intOf ti + 1).toNat)
  case atStart => exact ⟨a.length, 0, Nat.le_refl _, rfl, rfl, by rw [Hid, List.drop_length, Hlen.out, List.drop_length]⟩
  case round =>
    obtain ⟨m, n, hm, rfl, rfl, Hd⟩ := hrel
    cases m with
    | zero =>
      have R : Hid (cmpV (val a) (val b) = 0) := by
        have := Hd.out
        simp at this
        exact cmpV_eq (by rw [this])
      go_wp2
      go_ret
      exact ⟨by rw [R.out]; rfl, _, rfl⟩
    | succ j =>
      rw [show ((j + 1 : Nat) : Int) - 1 = (j : Int) by omega]
      have hja : j < a.length := by omega
      have hjb : j < b.length := by have := Hlen.out; omega
      obtain ⟨ba, oa, rfl, hba, hca⟩ := Fa.out (by omega)
      obtain ⟨bb, ob, rfl, hbb, hcb⟩ := Fb.out (by omega)
      have hx := hca j hja
      have hy := hcb j hjb
      have i1 : (j : Int) < a.length := by omega
      have i2 : (j : Int) < b.length := by omega
      have T1 := fun h => top_lt Oa.out j hja hjb Hlen.out Hd.out h
      have T2 := fun h => top_lt Ob.out j hjb hja Hlen.out.symm Hd.out.symm h
      have E := fun h : a.getD j 0 = b.getD j 0 => (show a.drop j = b.drop j by
        have e1 : a.drop j = a.getD j 0 :: a.drop (j + 1) := by rw [List.drop_eq_getElem_cons hja]; simp [hja]
        have e2 : b.drop j = b.getD j 0 :: b.drop (j + 1) := by rw [List.drop_eq_getElem_cons hjb]; simp [hjb]
        rw [e1, e2, h, Hd.out])
      generalize a.getD j 0 = x at *
      generalize b.getD j 0 = y at *
      clear hca hcb Hd
      rcases Nat.lt_trichotomy x y with hxy | hxy | hxy
      · have R : Hid (cmpV (val a) (val b) = -1) := cmpV_lt (T1 hxy)
        have t1 : ((x : Int) != y) = true := by simp; omega
        have t2 : (x : Int) < y := by omega
        clear T1 T2 E
        go_wp2
        go_quiet (fail)
        go_wp2
        go_quiet (fail)
        go_wp2
        go_ret
        exact ⟨by rw [R.out]; rfl, _, by rw [drew2, drew2]⟩
      · have R : Hid (a.drop j = b.drop j) := E hxy
        have t1 : ((x : Int) != y) = false := by simp; omega
        clear T1 T2 E
        go_wp2
        go_quiet (fail)
        go_wp2
        go_roundw
        case rel => exact ⟨j, _, by omega, by go_num, rfl, R⟩
        case measure => simp [intOf]
      · have R : Hid (cmpV (val a) (val b) = 1) := cmpV_gt (T2 hxy)
        have t1 : ((x : Int) != y) = true := by simp; omega
        have t2 : ¬ ((x : Int) < y) := by omega
        clear T1 T2 E
        go_wp2
        go_quiet (fail)
        go_wp2
        go_quiet (fail)
        go_wp2
        go_ret
        exact ⟨by rw [R.out]; rfl, _, by rw [drew2, drew2]⟩
end Go.Proofs.YtphlcjghcffnbaaDoor
