/-
  The contract of rate.Convert, over any list whose table is known.
-/
import Derived.Test.YtoggclbhjoodoaaDoorRateF
import Derived.Test.YtoggclbhjoodoaaDoorRatio3
namespace Go.Proofs.YtoggclbhjoodoaaDoor
set_option linter.unusedVariables false
open Go.RowKit Go.Lib Go.Maps Math

theorem below_draws {B : Nat} {a w : World} (h : Below B a w) (n : Nat) : Below B a (w.drewN n) := ⟨h.os, h.tape, h.output, h.size, h.block⟩

/-- What rate.Convert hands back. -/
def convV (R : Int × Int × Int) (m : Int) : Int := if R.2.2 = 0 then ratV m R.2.1 R.1 else 0
def convE (R : Int × Int × Int) (m : Int) : Value := if R.2.2 = 0 then ratE m R.2.1 R.1 else errV R.2.2

set_option maxHeartbeats 1000000 in
theorem convert_any (a : Option Addr) (len cap : Nat) (S : Int × DataW Unit) (base f t : ByteArray) (p m : Int) (w : World) (ht : Calls Tryd.prog 14 #[.slice a len cap] w (TabEnd w S)) (hg : TabGood S.2) (hm : -9223372036854775808 ≤ m) (hm2 : m ≤ 9223372036854775807) :
    Calls Tryd.prog 12 #[.slice a len cap, .string base, .string f, .string t, .int .i64 p, .int .i64 m] w fun e w' => e = .returned (.tuple #[.int .i64 (convV (findS S base f t p) m), convE (findS S base f t p) m]) ∧ Below w.heap.size w w' := by
  have hf := find_any a len cap S base f t p w ht hg
  have hr := findS_range (base := base) (f := f) (t := t) (p := p) hg
  generalize findS S base f t p = R at *
  have Hf : Hid (Calls Tryd.prog 10 #[.slice a len cap, .string base, .string f, .string t, .int .i64 p] w fun e w' => e = .returned (.tuple #[.int .i64 R.1, .int .i64 R.2.1, errV R.2.2]) ∧ Below w.heap.size w w') := hf
  clear hf ht hg S
  obtain ⟨n, d, e⟩ := R
  by_cases he : e = 0
  · subst he
    have e1 : Hid (convV (n, d, 0) m = ratV m d n ∧ convE (n, d, 0) m = ratE m d n) := ⟨rfl, rfl⟩
    simp only [forall_const] at hr
    go_enter Tryd.func12, Tryd.ntmps12
    go_wp2_with fail
    refine Hf.out.mono ?_
    rintro e w1 ⟨rfl, B1⟩
    simp only [errV_zero]
    go_wp2_with fail
    refine (ratio_any m d n _ hm hm2 (by omega) (by omega) (by omega) (by omega)).mono ?_
    rintro e w2 ⟨rfl, k, hw⟩
    rw [hw]; clear hw w2
    go_wp2
    go_ret2
    refine ⟨?_, below_draws B1 k⟩
    rw [e1.out.1, e1.out.2]; rfl
  · have e1 : Hid (convV (n, d, e) m = 0 ∧ convE (n, d, e) m = .iface 40 (.int .i64 e)) := ⟨if_neg he, (if_neg he).trans (errV_ne he)⟩
    clear hr
    go_enter Tryd.func12, Tryd.ntmps12
    go_wp2_with fail
    refine Hf.out.mono ?_
    rintro e w1 ⟨rfl, B1⟩
    simp only [errV_ne he]
    go_wp2
    go_ret2
    refine ⟨?_, B1⟩
    rw [e1.out.1, e1.out.2]; rfl
end Go.Proofs.YtoggclbhjoodoaaDoor
