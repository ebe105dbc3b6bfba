/-
  The walk of daylaw1.MoneySums, over any list of amounts whose sums are known; what money.Ratio hands back is what the document's answer is.
-/
import Derived.Test.YtobohklfcejhpaaDoorBig22
import Derived.Test.YtobohklfcejhpaaDoorRatio3
import Derived.Test.YtobohklfcejhpaaDoorSum
import Derived.Test.YtobohklfcejhpaaDoorAs2
namespace Go.Proofs.YtobohklfcejhpaaDoor
set_option linter.unusedVariables false
open Go.RowKit Big Math

theorem near_all (a n d : Int) (hd : 1 ≤ d) : 2 * (a * n - ratioV a n d * d) ≤ d ∧ -d ≤ 2 * (a * n - ratioV a n d * d) ∧ ((2 * (a * n - ratioV a n d * d) = d ∨ 2 * (a * n - ratioV a n d * d) = -d) → ratioV a n d % 2 = 0) := by
  obtain ⟨h1, h2, h3⟩ := near (absI a) n d hd
  unfold ratioV
  unfold absI at *
  split
  · rename_i h
    rw [if_pos h] at h1 h2 h3
    rw [Int.neg_mul] at h1 h2 h3 ⊢
    refine ⟨by omega, by omega, fun h' => ?_⟩
    have := h3 (by omega)
    omega
  · rename_i h
    rw [if_neg h] at h1 h2 h3
    exact ⟨h1, h2, h3⟩

/-- Of the nearest, a half being even, there is just one. -/
theorem nearest_one {p d t u : Int} (hd : 1 ≤ d) (t1 : 2 * (p - t * d) ≤ d) (t2 : -d ≤ 2 * (p - t * d)) (t3 : (2 * (p - t * d) = d ∨ 2 * (p - t * d) = -d) → t % 2 = 0)
    (u1 : 2 * (p - u * d) ≤ d) (u2 : -d ≤ 2 * (p - u * d)) (u3 : (2 * (p - u * d) = d ∨ 2 * (p - u * d) = -d) → u % 2 = 0) : t = u := by
  have e : (t - u) * d = t * d - u * d := Int.sub_mul t u d
  rcases (by omega : t - u ≤ -2 ∨ t - u = -1 ∨ t - u = 0 ∨ t - u = 1 ∨ 2 ≤ t - u) with h | h | h | h | h
  · have := Int.mul_le_mul_of_nonneg_right h (by omega : 0 ≤ d); omega
  · rw [h] at e
    have a1 := t3 (by omega)
    have a2 := u3 (by omega)
    omega
  · omega
  · rw [h] at e
    have a1 := t3 (by omega)
    have a2 := u3 (by omega)
    omega
  · have := Int.mul_le_mul_of_nonneg_right h (by omega : 0 ≤ d); omega

theorem refQ_eq (a n d : Int) (hd : 1 ≤ d) : refQ a n d = ratioV a n d := by
  obtain ⟨h1, h2, h3⟩ := near_all a n d hd
  have e0 : a * (2 * n) = 2 * (a * n) := by rw [Int.mul_left_comm]
  have e1 := Int.mul_ediv_add_emod (a * (2 * n) + d) (2 * d)
  have r0 := Int.emod_nonneg (a * (2 * n) + d) (b := 2 * d) (by omega)
  have r1 := Int.emod_lt_of_pos (a * (2 * n) + d) (b := 2 * d) (by omega)
  have hq : ∀ Q : Int, 2 * d * Q = 2 * (Q * d) := fun Q => by rw [Int.mul_assoc, Int.mul_comm d Q]
  refine nearest_one (p := a * n) hd ?_ ?_ ?_ h1 h2 h3
  all_goals
    unfold refQ
    generalize (a * (2 * n) + d) / (2 * d) = Q at *
    generalize (a * (2 * n) + d) % (2 * d) = R at *
    rw [e0] at e1
    have hq0 := hq Q
    have hq1 : (Q - 1) * d = Q * d - d := by rw [Int.sub_mul]; omega
    generalize a * n = p at *
    split
    · rename_i hc
      rw [hq1]
      generalize Q * d = s at *
      omega
    · rename_i hc
      generalize Q * d = s at *
      omega

/-- What is told of a part, either way. -/
theorem ratio_same (a n d : Int) (hn : 0 ≤ n) (hd : 1 ≤ d) : rV (refQ a n d) = ratV a n d ∧ ((rE (refQ a n d) = 0 ∧ ratE a n d = .nilIface) ∨ (rE (refQ a n d) = 10 ∧ ratE a n d = .iface 48 (.int .i64 10))) := by
  rw [refQ_eq a n d hd]
  have p0 := part_nonneg (absI a) n d (absI_nonneg a) hn hd
  have key : (-9223372036854775808 ≤ ratioV a n d ∧ ratioV a n d ≤ 9223372036854775807) ↔ partOf (absI a) n d ≤ 9223372036854775807 + (if a < 0 then 1 else 0) := by
    unfold ratioV
    split <;> omega
  unfold rV rE ratV ratE
  by_cases h : partOf (absI a) n d ≤ 9223372036854775807 + (if a < 0 then 1 else 0)
  · rw [if_pos (key.2 h), if_pos (key.2 h), if_pos h, if_pos h]
    exact ⟨rfl, .inl ⟨rfl, rfl⟩⟩
  · rw [if_neg (fun h' => h (key.1 h')), if_neg (fun h' => h (key.1 h')), if_neg h, if_neg h]
    exact ⟨rfl, .inr ⟨rfl, rfl⟩⟩

/-- The variable for the type of errors is as it is laid. -/
def ErrT (w : World) : Prop := w.cell? ⟨2, 0, none⟩ = some (.iface 114 (.agg #[.pointer (some ⟨3, 26, none⟩)]))
theorem ErrT.lt {w : World} (h : ErrT w) : 2 < w.heap.size := World.block_lt_of_cell? _ _ h
theorem ErrT.below {w w' : World} {B : Nat} (h : ErrT w) (hb : Below B w w') (hB : w.heap.size ≤ B) : ErrT w' := by
  unfold ErrT
  rw [hb.cell (p := ⟨2, 0, none⟩) (Nat.lt_of_lt_of_le h.lt hB)]
  exact h

/-- An error and its number. -/
def ErrIs (E : Value) (c : Int) : Prop := (E = .nilIface ∧ c = 0) ∨ (E = .iface 48 (.int .i64 c) ∧ -9223372036854775808 ≤ c ∧ c ≤ 9223372036854775807)

theorem err_true {E : Value} {c : Int} (h : ErrIs E c) (w : World) (hg : ErrT w) :
    Calls Tryd.prog 7 #[E, .int .i64 c] w fun e w' => e = .returned (.bool true) ∧ Below w.heap.size w w' := by
  rcases h with ⟨rfl, rfl⟩ | ⟨rfl, h1, h2⟩
  · refine (error_nil 0 w).mono ?_
    rintro e w' ⟨rfl, rfl⟩
    exact ⟨rfl, Below.refl _ _⟩
  · refine (error_errno c c w h1 h2 hg).mono ?_
    rintro e w' ⟨rfl, hb⟩
    exact ⟨by simp, hb⟩

/-- What both sums of a list hand back. -/
structure SumsC (w : World) (a : Option Addr) (len cap : Nat) (s : Int) : Prop where
  ref : ∀ W, Below w.heap.size w W → Calls Tryd.prog 5 #[.slice a len cap] W fun e w' => e = .returned (.tuple #[.int .i64 (rV s), .int .i64 (rE s)]) ∧ Below w.heap.size w w'
  mon : ∀ W, Below w.heap.size w W → Calls Tryd.prog 6 #[.slice a len cap] W fun e w' => e = .returned (.tuple #[.int .i64 (rV s), sumE s]) ∧ w' = W

theorem sumE_is (s : Int) : ErrIs (sumE s) (rE s) := by
  unfold sumE rE
  split
  · exact .inl ⟨rfl, rfl⟩
  · exact .inr ⟨rfl, by omega, by omega⟩

theorem two_list (w : World) (x y : Int) (hx : I64 x) (hy : I64 y) :
    Calls Tryd.prog 5 #[.slice (some ⟨w.heap.size, 0, none⟩) 2 2] (w.alloc (.cells #[.int .i64 x, .int .i64 y] 3)) fun e w' => e = .returned (.tuple #[.int .i64 (rV (x + y)), .int .i64 (rE (x + y))]) ∧ Hid ((w.alloc (.cells #[.int .i64 x, .int .i64 y] 3)).grownBy w' none) := by
  have hI : Hid (∀ i, i < [x, y].length → Math.I64 ([x, y].getD i 0)) := by
    intro i hi
    match i, hi with
    | 0, _ => exact hx
    | 1, _ => exact hy
  have := refSum_run w.heap.size 0 2 2 [x, y] (w.alloc (.cells #[.int .i64 x, .int .i64 y] 3)) rfl (by simp) hI (by
    intro i hi
    match i, hi with
    | 0, _ => exact ⟨by simp, by simp⟩
    | 1, _ => exact ⟨by simp, by simp⟩)
  have e : [x, y].sum = x + y := by simp
  rw [e] at this
  exact this

set_option maxHeartbeats 2000000 in
theorem sums_walk (a0 : Option Addr) (len cap : Nat) (s a n d : Int) (w : World) (hS : SumsC w a0 len cap s) (ha : I64 a) (hn : I64 n) (hd : I64 d) (hg : ErrT w) :
    Calls Tryd.prog 3 #[.slice a0 len cap, .int .i64 a, .int .i64 n, .int .i64 d] w fun e w' => e = .returned (.bool true) ∧ Below w.heap.size w w' := by
  have Err : Hid (∀ E c W, ErrIs E c → Below w.heap.size w W → Calls Tryd.prog 7 #[E, .int .i64 c] W fun e w' => e = .returned (.bool true) ∧ Below w.heap.size w w') := fun E c W h hW => by
    refine (err_true h W (hg.below hW (Nat.le_refl _))).mono ?_
    rintro e w' ⟨rfl, hb⟩
    exact ⟨rfl, hW.trans (hb.mono hW.size)⟩
  have Rt : Hid (∃ V c E, ErrIs E c ∧ (∀ W, Below w.heap.size w W → Calls Tryd.prog 8 #[.int .i64 a, .int .i64 n, .int .i64 d] W fun e w' => e = .returned (.tuple #[.int .i64 V, .int .i64 c]) ∧ Below w.heap.size w w') ∧
      (∀ W, Below w.heap.size w W → Calls Tryd.prog 9 #[.int .i64 a, .int .i64 n, .int .i64 d] W fun e w' => e = .returned (.tuple #[.int .i64 V, E]) ∧ Below w.heap.size w w')) := by
    by_cases ho : n < 0 ∨ 1000000000 < n ∨ d < 1 ∨ 1000000000 < d
    · refine ⟨0, 1, .iface 48 (.int .i64 1), .inr ⟨rfl, by omega, by omega⟩, fun W hW => ?_, fun W hW => ?_⟩
      · refine (ref_out a n d W ho).mono ?_
        rintro e w' ⟨rfl, rfl⟩
        exact ⟨rfl, hW⟩
      · refine (ratio_range a n d W ho).mono ?_
        rintro e w' ⟨rfl, rfl⟩
        exact ⟨rfl, hW⟩
    · obtain ⟨e1, e2⟩ := ratio_same a n d (by omega) (by omega)
      refine ⟨ratV a n d, rE (refQ a n d), ratE a n d, ?_, fun W hW => ?_, fun W hW => ?_⟩
      · rcases e2 with ⟨e2, e3⟩ | ⟨e2, e3⟩
        · exact .inl ⟨e3, e2⟩
        · rw [e2]; exact .inr ⟨e3, by omega, by omega⟩
      · refine (ref_in a n d W ha.1 ha.2 (by omega) (by omega) (by omega) (by omega)).mono ?_
        rintro e w' ⟨rfl, hb⟩
        rw [e1]
        exact ⟨rfl, below_g hW hb.out hW.size (by simp)⟩
      · refine (ratio_any a n d W ha.1 ha.2 (by omega) (by omega) (by omega) (by omega)).mono ?_
        rintro e w' ⟨rfl, k, rfl⟩
        exact ⟨rfl, ⟨hW.os, hW.tape, hW.output, hW.size, hW.block⟩⟩
  obtain ⟨V, c, E, hE, R1, R2⟩ := Rt.out
  have HR1 : Hid (∀ W, Below w.heap.size w W → Calls Tryd.prog 8 #[.int .i64 a, .int .i64 n, .int .i64 d] W fun e w' => e = .returned (.tuple #[.int .i64 V, .int .i64 c]) ∧ Below w.heap.size w w') := R1
  have HR2 : Hid (∀ W, Below w.heap.size w W → Calls Tryd.prog 9 #[.int .i64 a, .int .i64 n, .int .i64 d] W fun e w' => e = .returned (.tuple #[.int .i64 V, E]) ∧ Below w.heap.size w w') := R2
  have HE : Hid (ErrIs E c) := hE
  have HS : Hid (SumsC w a0 len cap s) := hS
  have T1 : Hid (∀ W, Below w.heap.size w W → Calls Tryd.prog 5 #[.slice (some ⟨W.heap.size, 0, none⟩) 2 2] (W.alloc (.cells #[.int .i64 a, .int .i64 n] 3)) fun e w' => e = .returned (.tuple #[.int .i64 (rV (a + n)), .int .i64 (rE (a + n))]) ∧ Below w.heap.size w w') := fun W hW => by
    refine (two_list W a n ha hn).mono ?_
    rintro e w' ⟨rfl, hb⟩
    exact ⟨rfl, below_g (hW.alloc hW.size _) hb.out (by have := hW.size; simp; omega) (by simp)⟩
  have T2 : Hid (∀ W, Below w.heap.size w W → Calls Tryd.prog 10 #[.int .i64 a, .int .i64 n] W fun e w' => e = .returned (.tuple #[.int .i64 (rV (a + n)), sumE (a + n)]) ∧ Below w.heap.size w w') := fun W hW => by
    refine (moneyAdd_any a n W ha hn).mono ?_
    rintro e w' ⟨rfl, o, rfl⟩
    exact ⟨rfl, hW.alloc hW.size _⟩
  have E1 : Hid (ErrIs (sumE s) (rE s)) := sumE_is s
  have E3 : Hid (ErrIs (sumE (a + n)) (rE (a + n))) := sumE_is _
  clear hS hg Rt R1 R2 hE ha hn hd
  generalize rV (a + n) = v3 at *
  generalize rE (a + n) = c3 at *
  generalize sumE (a + n) = x3 at *
  go_enter Tryd.func3, Tryd.ntmps3
  go_wp2_with fail
  refine (HS.out.ref w (Below.refl _ _)).mono ?_
  rintro e w1 ⟨rfl, B1⟩
  go_wp2_with fail
  refine (HS.out.mon w1 B1).mono ?_
  rintro e w' ⟨rfl, hw⟩
  rw [hw]; clear hw w' HS
  go_wp2_with fail
  refine (Err.out _ _ w1 E1.out B1).mono ?_
  rintro e w2 ⟨rfl, B2⟩
  clear B1
  go_wp2_with fail
  refine (HR1.out w2 B2).mono ?_
  rintro e w3 ⟨rfl, B3⟩
  clear B2
  go_wp2_with fail
  refine (HR2.out w3 B3).mono ?_
  rintro e w4 ⟨rfl, B4⟩
  clear B3
  go_wp2_with fail
  refine (Err.out _ _ w4 HE.out B4).mono ?_
  rintro e w5 ⟨rfl, B5⟩
  clear B4
  go_wp2_with fail
  refine (T1.out w5 B5).mono ?_
  rintro e w6 ⟨rfl, B6⟩
  clear B5
  go_wp2_with fail
  refine (T2.out w6 B6).mono ?_
  rintro e w7 ⟨rfl, B7⟩
  clear B6
  go_wp2_with fail
  refine (Err.out _ _ w7 E3.out B7).mono ?_
  rintro e w8 ⟨rfl, B8⟩
  clear B7 Err HR1 HR2 HE T1 T2 E1 E3
  go_wp2
  go_ret
  refine ⟨?_, B8⟩
  first | rfl | simp
end Go.Proofs.YtobohklfcejhpaaDoor
