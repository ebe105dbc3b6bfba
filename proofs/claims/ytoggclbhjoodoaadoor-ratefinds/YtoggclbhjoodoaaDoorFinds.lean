/-
  The walk of daylaw1.RateFinds, over any list whose rates are known.
-/
import Derived.Test.YtoggclbhjoodoaaDoorBig22
import Derived.Test.YtoggclbhjoodoaaDoorRatio3
import Derived.Test.YtoggclbhjoodoaaDoorAs2
import Derived.Test.YtoggclbhjoodoaaDoorRefR4
import Derived.Test.YtoggclbhjoodoaaDoorRate7
namespace Go.Proofs.YtoggclbhjoodoaaDoor
set_option linter.unusedVariables false
open Go.RowKit Big Math

theorem near_all (a n d : Int) (hd : 1 ≤ d) : 2 * (a * n - ratioV a n d * d) ≤ d ∧ -d ≤ 2 * (a * n - ratioV a n d * d) ∧ ((2 * (a * n - ratioV a n d * d) = d ∨ 2 * (a * n - ratioV a n d * d) = -d) → ratioV a n d % 2 = 0) := by
  obtain ⟨h1, h2, h3⟩ := near (absI a) n d hd
  unfold ratioV
  unfold absI at *
  split
  · rename_i h
    rw [if_pos h] at h1 h2 h3
    rw [Int.neg_mul] at h1 h2 h3 ⊢
    refine ⟨by omega, by omega, fun h' => ?_⟩
    have := h3 (by omega)
    omega
  · rename_i h
    rw [if_neg h] at h1 h2 h3
    exact ⟨h1, h2, h3⟩

/-- Of the nearest, a half being even, there is just one. -/
theorem nearest_one {p d t u : Int} (hd : 1 ≤ d) (t1 : 2 * (p - t * d) ≤ d) (t2 : -d ≤ 2 * (p - t * d)) (t3 : (2 * (p - t * d) = d ∨ 2 * (p - t * d) = -d) → t % 2 = 0)
    (u1 : 2 * (p - u * d) ≤ d) (u2 : -d ≤ 2 * (p - u * d)) (u3 : (2 * (p - u * d) = d ∨ 2 * (p - u * d) = -d) → u % 2 = 0) : t = u := by
  have e : (t - u) * d = t * d - u * d := Int.sub_mul t u d
  rcases (by omega : t - u ≤ -2 ∨ t - u = -1 ∨ t - u = 0 ∨ t - u = 1 ∨ 2 ≤ t - u) with h | h | h | h | h
  · have := Int.mul_le_mul_of_nonneg_right h (by omega : 0 ≤ d); omega
  · rw [h] at e
    have a1 := t3 (by omega)
    have a2 := u3 (by omega)
    omega
  · omega
  · rw [h] at e
    have a1 := t3 (by omega)
    have a2 := u3 (by omega)
    omega
  · have := Int.mul_le_mul_of_nonneg_right h (by omega : 0 ≤ d); omega

theorem refQ_eq (a n d : Int) (hd : 1 ≤ d) : refQ a n d = ratioV a n d := by
  obtain ⟨h1, h2, h3⟩ := near_all a n d hd
  have e0 : a * (2 * n) = 2 * (a * n) := by rw [Int.mul_left_comm]
  have e1 := Int.mul_ediv_add_emod (a * (2 * n) + d) (2 * d)
  have r0 := Int.emod_nonneg (a * (2 * n) + d) (b := 2 * d) (by omega)
  have r1 := Int.emod_lt_of_pos (a * (2 * n) + d) (b := 2 * d) (by omega)
  have hq : ∀ Q : Int, 2 * d * Q = 2 * (Q * d) := fun Q => by rw [Int.mul_assoc, Int.mul_comm d Q]
  refine nearest_one (p := a * n) hd ?_ ?_ ?_ h1 h2 h3
  all_goals
    unfold refQ
    generalize (a * (2 * n) + d) / (2 * d) = Q at *
    generalize (a * (2 * n) + d) % (2 * d) = R at *
    rw [e0] at e1
    have hq0 := hq Q
    have hq1 : (Q - 1) * d = Q * d - d := by rw [Int.sub_mul]; omega
    generalize a * n = p at *
    split
    · rename_i hc
      rw [hq1]
      generalize Q * d = s at *
      omega
    · rename_i hc
      generalize Q * d = s at *
      omega

/-- What is told of a part, either way. -/
theorem ratio_same (a n d : Int) (hn : 0 ≤ n) (hd : 1 ≤ d) : rV (refQ a n d) = ratV a n d ∧ ((rE (refQ a n d) = 0 ∧ ratE a n d = .nilIface) ∨ (rE (refQ a n d) = 10 ∧ ratE a n d = .iface 40 (.int .i64 10))) := by
  rw [refQ_eq a n d hd]
  have p0 := part_nonneg (absI a) n d (absI_nonneg a) hn hd
  have key : (-9223372036854775808 ≤ ratioV a n d ∧ ratioV a n d ≤ 9223372036854775807) ↔ partOf (absI a) n d ≤ 9223372036854775807 + (if a < 0 then 1 else 0) := by
    unfold ratioV
    split <;> omega
  unfold rV rE ratV ratE
  by_cases h : partOf (absI a) n d ≤ 9223372036854775807 + (if a < 0 then 1 else 0)
  · rw [if_pos (key.2 h), if_pos (key.2 h), if_pos h, if_pos h]
    exact ⟨rfl, .inl ⟨rfl, rfl⟩⟩
  · rw [if_neg (fun h' => h (key.1 h')), if_neg (fun h' => h (key.1 h')), if_neg h, if_neg h]
    exact ⟨rfl, .inr ⟨rfl, rfl⟩⟩

end Go.Proofs.YtoggclbhjoodoaaDoor

namespace Go.Proofs.YtoggclbhjoodoaaDoor
set_option linter.unusedVariables false
open Go.RowKit

/-- The variable for the type of errors is as it is laid. -/
def ErrT (w : World) : Prop := w.cell? ⟨0, 0, none⟩ = some (.iface 117 (.agg #[.pointer (some ⟨3, 26, none⟩)]))
theorem ErrT.lt {w : World} (h : ErrT w) : 0 < w.heap.size := World.block_lt_of_cell? _ _ h
theorem ErrT.below {w w' : World} {B : Nat} (h : ErrT w) (hb : Below B w w') (hB : w.heap.size ≤ B) : ErrT w' := by
  unfold ErrT
  rw [hb.cell (p := ⟨0, 0, none⟩) (Nat.lt_of_lt_of_le h.lt hB)]
  exact h

/-- An error and its number. -/
def ErrIs (E : Value) (c : Int) : Prop := (E = .nilIface ∧ c = 0) ∨ (E = .iface 40 (.int .i64 c) ∧ -9223372036854775808 ≤ c ∧ c ≤ 9223372036854775807)

theorem err_true {E : Value} {c : Int} (h : ErrIs E c) (w : World) (hg : ErrT w) :
    Calls Tryd.prog 5 #[E, .int .i64 c] w fun e w' => e = .returned (.bool true) ∧ Below w.heap.size w w' := by
  rcases h with ⟨rfl, rfl⟩ | ⟨rfl, h1, h2⟩
  · refine (error_nil 0 w).mono ?_
    rintro e w' ⟨rfl, rfl⟩
    exact ⟨rfl, Below.refl _ _⟩
  · refine (error_errno c c w h1 h2 hg).mono ?_
    rintro e w' ⟨rfl, hb⟩
    exact ⟨by simp, hb⟩

end Go.Proofs.YtoggclbhjoodoaaDoor

namespace Go.Proofs.YtoggclbhjoodoaaDoor
set_option linter.unusedVariables false
set_option linter.unusedSimpArgs false
set_option maxRecDepth 100000
open Go.RowKit Go.Lib Go.Maps Big Math

theorem rateBad_bd (r : Rt) : 0 ≤ rateBad r ∧ rateBad r ≤ 10 := by
  unfold rateBad
  split
  · omega
  · split
    · omega
    · split <;> omega

theorem tabGo_bd : ∀ (rs : List Rt) (D : DataW Unit), 0 ≤ (tabGo D rs).1 ∧ (tabGo D rs).1 ≤ 10
  | [], D => by simp [tabGo]
  | r :: rs, D => by
    have hb := rateBad_bd r
    simp only [tabGo]
    split
    · exact hb
    · split
      · simp
      · exact tabGo_bd rs _

theorem tabS_bd (rs : List Rt) : 0 ≤ (tabS rs).1 ∧ (tabS rs).1 ≤ 10 := by
  unfold tabS
  split
  · simp
  · exact tabGo_bd rs _

theorem findS_bd (rs : List Rt) (base f t : ByteArray) (p : Int) : 0 ≤ (findS (tabS rs) base f t p).2.2 ∧ (findS (tabS rs) base f t p).2.2 ≤ 10 := by
  have h := tabS_bd rs
  unfold findS
  split
  · exact h
  · split
    · simp
    · split
      · simp
      · split
        · simp
        · split
          · simp
          · split
            · simp
            · unfold chainS
              split <;> simp

theorem errV_is {c : Int} (h1 : 0 ≤ c) (h2 : c ≤ 10) : ErrIs (errV c) c := by
  by_cases h : c = 0
  · subst h; exact .inl ⟨rfl, rfl⟩
  · rw [errV_ne h]; exact .inr ⟨rfl, by omega, by omega⟩

theorem check_walk (a : Option Addr) (len cap : Nat) (S : Int × DataW Unit) (w : World) (ht : Calls Tryd.prog 14 #[.slice a len cap] w (TabEnd w S)) :
    Calls Tryd.prog 6 #[.slice a len cap] w fun e w' => e = .returned (errV S.1) ∧ Below w.heap.size w w' := by
  have Ht : Hid (Calls Tryd.prog 14 #[.slice a len cap] w (TabEnd w S)) := ht
  clear ht
  obtain ⟨E, D⟩ := S
  go_enter Tryd.func6, Tryd.ntmps6
  go_wp2_with fail
  refine Ht.out.mono ?_
  rintro e w1 ⟨B1, hbad, hok⟩
  simp only at hbad hok
  by_cases hE : E = 0
  · obtain ⟨N, rfl, hN, hT⟩ := hok hE
    subst hE
    clear hbad hok Ht hT
    go_wp2
    go_ret
    exact ⟨rfl, B1⟩
  · obtain rfl := hbad hE
    rw [errV_ne hE]
    clear hok hbad Ht
    go_wp2
    go_ret
    exact ⟨by rw [errV_ne hE]; rfl, B1⟩

/-- Both answers to an amount are alike. -/
theorem conv_same (R : Int × Int × Int) (m : Int) (h0 : 0 ≤ R.2.2) (h1 : R.2.2 ≤ 10) (hr : R.2.2 = 0 → (1 ≤ R.1 ∧ R.1 ≤ 1000000000) ∧ 1 ≤ R.2.1 ∧ R.2.1 ≤ 1000000000) : convV R m = rconvV R m ∧ ErrIs (convE R m) (rconvE R m) := by
  unfold convV rconvV convE rconvE
  by_cases h : R.2.2 = 0
  · rw [if_pos h, if_pos h, if_pos h, if_pos h]
    have hb := hr h
    obtain ⟨e1, e2⟩ := ratio_same m R.2.1 R.1 (by omega) (by omega)
    refine ⟨e1.symm, ?_⟩
    rcases e2 with ⟨e2, e3⟩ | ⟨e2, e3⟩
    · rw [e2, e3]; exact .inl ⟨rfl, rfl⟩
    · rw [e2, e3]; exact .inr ⟨rfl, by omega, by omega⟩
  · rw [if_neg h, if_neg h, if_neg h, if_neg h]
    exact ⟨rfl, errV_is h0 h1⟩

set_option maxHeartbeats 4000000 in
theorem finds_walk (a : Option Addr) (len cap : Nat) (rs : List Rt) (base f t : ByteArray) (p m : Int) (w : World) (hT : ∀ W, Below w.heap.size w W → Calls Tryd.prog 14 #[.slice a len cap] W (TabEnd W (tabS rs))) (hC : RefC w a len cap rs) (hm : -9223372036854775808 ≤ m) (hm2 : m ≤ 9223372036854775807) (hg : ErrT w) :
    Calls Tryd.prog 3 #[.slice a len cap, .string base, .string f, .string t, .int .i64 p, .int .i64 m] w fun e w' => e = .returned (.bool true) ∧ Below w.heap.size w w' := by
  have Err : Hid (∀ E c W, ErrIs E c → Below w.heap.size w W → Calls Tryd.prog 5 #[E, .int .i64 c] W fun e w' => e = .returned (.bool true) ∧ Below w.heap.size w w') := fun E c W h hW => by
    refine (err_true h W (hg.below hW (Nat.le_refl _))).mono ?_
    rintro e w' ⟨rfl, hb⟩
    exact ⟨rfl, hW.trans (hb.mono hW.size)⟩
  have good := (tabS_good rs).1
  have eF := refFind_eq rs base f t p
  have bF := findS_bd rs base f t p
  have rF := findS_range (base := base) (f := f) (t := t) (p := p) good
  have C1 : Hid (∀ W, Below w.heap.size w W → Calls Tryd.prog 4 #[.slice a len cap] W fun e w' => e = .returned (.int .i64 (tabS rs).1) ∧ Below w.heap.size w w') := fun W hW => by
    rw [← (ratesS_eq rs).1]; exact hC.rates W hW
  have C2 : Hid (∀ W, Below w.heap.size w W → Calls Tryd.prog 6 #[.slice a len cap] W fun e w' => e = .returned (errV (tabS rs).1) ∧ Below w.heap.size w w') := fun W hW => by
    refine (check_walk a len cap (tabS rs) W (hT W hW)).mono ?_
    rintro e w' ⟨rfl, hb⟩
    exact ⟨rfl, hW.trans (hb.mono hW.size)⟩
  have E1 : Hid (ErrIs (errV (tabS rs).1) (tabS rs).1) := errV_is (tabS_bd rs).1 (tabS_bd rs).2
  have C3 : Hid (∀ W, Below w.heap.size w W → Calls Tryd.prog 8 #[.string f] W fun e w' => e = .returned (.bool (isCur f)) ∧ Below w.heap.size w w') := fun W hW => by
    refine (cur_any f W).mono ?_
    rintro e w' ⟨rfl, hb⟩
    exact ⟨rfl, hW.trans (hb.mono hW.size)⟩
  have C4 : Hid (∀ W, Below w.heap.size w W → Calls Tryd.prog 9 #[.slice a len cap, .string base, .string f, .string t, .int .i64 p] W fun e w' => e = .returned (.tuple #[.int .i64 (findS (tabS rs) base f t p).1, .int .i64 (findS (tabS rs) base f t p).2.1, .int .i64 (findS (tabS rs) base f t p).2.2]) ∧ Below w.heap.size w w') := fun W hW => by
    rw [← eF]; exact refFind_any a len cap rs base f t p w W hC hW
  have C5 : Hid (∀ W, Below w.heap.size w W → Calls Tryd.prog 10 #[.slice a len cap, .string base, .string f, .string t, .int .i64 p] W fun e w' => e = .returned (.tuple #[.int .i64 (findS (tabS rs) base f t p).1, .int .i64 (findS (tabS rs) base f t p).2.1, errV (findS (tabS rs) base f t p).2.2]) ∧ Below w.heap.size w w') := fun W hW => by
    refine (find_any a len cap (tabS rs) base f t p W (hT W hW) good).mono ?_
    rintro e w' ⟨rfl, hb⟩
    exact ⟨rfl, hW.trans (hb.mono hW.size)⟩
  have E2 : Hid (ErrIs (errV (findS (tabS rs) base f t p).2.2) (findS (tabS rs) base f t p).2.2) := errV_is bF.1 bF.2
  obtain ⟨s1, s2⟩ := conv_same (findS (tabS rs) base f t p) m bF.1 bF.2 rF
  have C6 : Hid (∀ W, Below w.heap.size w W → Calls Tryd.prog 11 #[.slice a len cap, .string base, .string f, .string t, .int .i64 p, .int .i64 m] W fun e w' => e = .returned (.tuple #[.int .i64 (convV (findS (tabS rs) base f t p) m), .int .i64 (rconvE (findS (tabS rs) base f t p) m)]) ∧ Below w.heap.size w w') := fun W hW => by
    rw [s1, ← eF]; exact refConvert_any a len cap rs base f t p m w W hC hW hm hm2
  have C7 : Hid (∀ W, Below w.heap.size w W → Calls Tryd.prog 12 #[.slice a len cap, .string base, .string f, .string t, .int .i64 p, .int .i64 m] W fun e w' => e = .returned (.tuple #[.int .i64 (convV (findS (tabS rs) base f t p) m), convE (findS (tabS rs) base f t p) m]) ∧ Below w.heap.size w w') := fun W hW => by
    refine (convert_any a len cap (tabS rs) base f t p m W (hT W hW) good hm hm2).mono ?_
    rintro e w' ⟨rfl, hb⟩
    exact ⟨rfl, hW.trans (hb.mono hW.size)⟩
  have E3 : Hid (ErrIs (convE (findS (tabS rs) base f t p) m) (rconvE (findS (tabS rs) base f t p) m)) := s2
  clear hT hC hg good eF bF rF s1 s2
  generalize convV (findS (tabS rs) base f t p) m = cv at *
  generalize convE (findS (tabS rs) base f t p) m = ce at *
  generalize rconvE (findS (tabS rs) base f t p) m = rc at *
  generalize findS (tabS rs) base f t p = R at *
  obtain ⟨n, d, c⟩ := R
  simp only at C4 C5 E2
  generalize errV c = ec at *
  generalize (tabS rs).1 = c1 at *
  generalize errV c1 = ec1 at *
  go_enter Tryd.func3, Tryd.ntmps3
  go_wp2_with fail
  refine (C1.out w (Below.refl _ _)).mono ?_
  rintro e w1 ⟨rfl, B1⟩
  go_wp2_with fail
  refine (C2.out w1 B1).mono ?_
  rintro e w2 ⟨rfl, B2⟩
  clear B1
  go_wp2_with fail
  refine (Err.out _ _ w2 E1.out B2).mono ?_
  rintro e w3 ⟨rfl, B3⟩
  clear B2
  go_wp2_with fail
  refine (refCur_any f w3).mono ?_
  rintro e w' ⟨rfl, hw⟩
  rw [hw]; clear hw w'
  go_wp2_with fail
  refine (C3.out w3 B3).mono ?_
  rintro e w4 ⟨rfl, B4⟩
  clear B3
  generalize isCur f = cf at *
  go_wp2_with fail
  refine (C4.out w4 B4).mono ?_
  rintro e w5 ⟨rfl, B5⟩
  clear B4
  go_wp2_with fail
  refine (C5.out w5 B5).mono ?_
  rintro e w6 ⟨rfl, B6⟩
  clear B5
  go_wp2_with fail
  refine (Err.out _ _ w6 E2.out B6).mono ?_
  rintro e w7 ⟨rfl, B7⟩
  clear B6
  go_wp2_with fail
  refine (C6.out w7 B7).mono ?_
  rintro e w8 ⟨rfl, B8⟩
  clear B7
  go_wp2_with fail
  refine (C7.out w8 B8).mono ?_
  rintro e w9 ⟨rfl, B9⟩
  clear B8
  go_wp2_with fail
  refine (Err.out _ _ w9 E3.out B9).mono ?_
  rintro e w10 ⟨rfl, B10⟩
  clear B9 Err C1 C2 C3 C4 C5 C6 C7 E1 E2 E3
  go_wp2
  go_ret
  refine ⟨?_, B10⟩
  first | rfl | simp
end Go.Proofs.YtoggclbhjoodoaaDoor
