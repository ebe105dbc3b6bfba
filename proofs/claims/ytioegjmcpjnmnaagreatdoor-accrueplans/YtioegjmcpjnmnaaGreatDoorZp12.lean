/-
  The contracts of the methods Abs, Quo, Cmp and GCD of quarterdaybig's Int, for numbers of two words at most.
-/
import Derived.Test.YtioegjmcpjnmnaaGreatDoorZp10
import Derived.Test.YtioegjmcpjnmnaaGreatDoorZp11
import Derived.Test.YtioegjmcpjnmnaaGreatDoorZp7
import Derived.Deep.QuietTactic
import Derived.BigQuiet
namespace Go.Proofs.YtioegjmcpjnmnaaGreatDoor
set_option linter.unusedVariables false
set_option linter.unusedSimpArgs false
open Go.RowKit Big

theorem mul_mid (nx ny : Bool) (vx vy : Value) (lx ly : List Nat) (w W : World) (hW : w.grownBy W none) (hx : Wd w vx lx) (hy : Wd w vy ly) (h1 : lx.length < 35184372088832) (h2 : ly.length < 35184372088832) :
    Calls Tryz.prog 56 #[vx, vy] W fun e w' => ∃ v l, e = .returned v ∧ Mid w w' (nx != ny) v l (sg nx (val lx) * sg ny (val ly)) := by
  refine (mul_any vx vy lx ly W (hx.grow hW) (hy.grow hW) h1 h2).mono ?_
  rintro e w1 ⟨v, l, rfl, hv, hn, hval, hg⟩
  refine ⟨v, l, rfl, hv, hn, ?_, gtrans hW hg⟩
  rw [hval]
  unfold sg
  cases nx <;> cases ny <;> simp [Int.neg_mul, Int.mul_neg]

set_option maxHeartbeats 4000000 in
theorem Mul_any (pz px py : Nat) (nz nx ny : Bool) (vz vx vy : Value) (lx ly : List Nat) (w : World) (hz : w.heap[pz]? = some (.cells #[.bool nz, vz] 86 (0, 0))) (hzi : ∀ k n, vz ≠ .int k n)
    (hx : IsBig w px nx vx lx) (hy : IsBig w py ny vy ly) (h1 : lx.length < 35184372088832) (h2 : ly.length < 35184372088832) :
    Calls Tryz.prog 33 #[.pointer (some ⟨pz, 0, none⟩), .pointer (some ⟨px, 0, none⟩), .pointer (some ⟨py, 0, none⟩)] w fun e w' => e = .returned (.pointer (some ⟨pz, 0, none⟩)) ∧ Hid (BigIs w' pz (sg nx (val lx) * sg ny (val ly)) ∧ w.grownBy w' (some pz)) := by
  have cx0 := blk_cell0 hx.blk
  have cx1 := blk_cell1 hx.blk
  have cy0 := blk_cell0 hy.blk
  have cy1 := blk_cell1 hy.blk
  have mulC : Hid (∀ W, w.grownBy W none → Calls Tryz.prog 56 #[vx, vy] W fun e w' => ∃ v l, e = .returned v ∧ Mid w w' (nx != ny) v l (sg nx (val lx) * sg ny (val ly))) := fun W hW => mul_mid nx ny vx vy lx ly w W hW hx.wd hy.wd h1 h2
  have giveC : Hid (∀ neg v l w1 x, Mid w w1 neg v l x → Calls Tryz.prog 55 #[.pointer (some ⟨pz, 0, none⟩), .bool neg, v] w1 fun e w' => e = .returned (.pointer (some ⟨pz, 0, none⟩)) ∧ Hid (BigIs w' pz x ∧ w.grownBy w' (some pz))) := fun neg v l w1 x h => give_mid pz neg nz vz v l x w w1 hz hzi h
  have bx : px < w.heap.size := blk_lt hx.blk
  have bY : py < w.heap.size := blk_lt hy.blk
  have gx0 : Hid (∀ w', w.grownBy w' none → w'.cell? ⟨px, 0, none⟩ = some (.bool nx)) := fun w' h => h.cell cx0 (by simp)
  have gx1 : Hid (∀ w', w.grownBy w' none → w'.cell? ⟨px, 1, none⟩ = some vx) := fun w' h => h.cell cx1 (by simp)
  have gy0 : Hid (∀ w', w.grownBy w' none → w'.cell? ⟨py, 0, none⟩ = some (.bool ny)) := fun w' h => h.cell cy0 (by simp)
  have gy1 : Hid (∀ w', w.grownBy w' none → w'.cell? ⟨py, 1, none⟩ = some vy) := fun w' h => h.cell cy1 (by simp)
  clear hz hzi hx hy h1 h2 cx0 cx1 cy0 cy1
  generalize sg nx (val lx) * sg ny (val ly) = X at *
  go_enter Tryz.func33, Tryz.ntmps33
  go_wp2
  refine wp_region_any (by kernel_rfl) ?_
  refine wpAny_take (i := 0) (v := .pointer (some ⟨pz, 0, none⟩)) rfl (by kernel_rfl) (by kernel_rfl) (by kernel_rfl) (fun _ _ _ h => h) (Or.inl ⟨by rfl, fun w => by go_simp⟩) ?_
  simp only [Act.put, List.setIfInBounds_toArray, List.set_cons_zero, List.set_cons_succ]
  refine wpAny_take (i := 1) (v := .pointer (some ⟨px, 0, none⟩)) rfl (by kernel_rfl) (by kernel_rfl) (by kernel_rfl) (fun _ _ _ h => h) (Or.inl ⟨by rfl, fun w => by go_simp⟩) ?_
  simp only [Act.put, List.setIfInBounds_toArray, List.set_cons_zero, List.set_cons_succ]
  refine wpAny_take (i := 2) (v := .pointer (some ⟨px, 0, none⟩)) rfl (by kernel_rfl) (by kernel_rfl) (by kernel_rfl) (fun _ _ _ h => h) (Or.inl ⟨by rfl, fun w => by go_simp⟩) ?_
  simp only [Act.put, List.setIfInBounds_toArray, List.set_cons_zero, List.set_cons_succ]
  refine wpAny_take (i := 3) (v := .pointer (some ⟨px, 0, none⟩)) rfl (by kernel_rfl) (by kernel_rfl) (by kernel_rfl) (fun _ _ _ h => h) (Or.inl ⟨by rfl, fun w => by go_simp⟩) ?_
  simp only [Act.put, List.setIfInBounds_toArray, List.set_cons_zero, List.set_cons_succ]
  refine wpAny_take (i := 5) (v := .pointer (some ⟨py, 0, none⟩)) rfl (by kernel_rfl) (by kernel_rfl) (by kernel_rfl) (fun _ _ _ h => h) (Or.inl ⟨by rfl, fun w => by go_simp⟩) ?_
  simp only [Act.put, List.setIfInBounds_toArray, List.set_cons_zero, List.set_cons_succ]
  refine wpAny_take (i := 6) (v := .pointer (some ⟨py, 0, none⟩)) rfl (by kernel_rfl) (by kernel_rfl) (by kernel_rfl) (fun _ _ _ h => h) (Or.inl ⟨by rfl, fun w => by go_simp⟩) ?_
  simp only [Act.put, List.setIfInBounds_toArray, List.set_cons_zero, List.set_cons_succ]
  refine wpAny_take (i := 7) (v := .pointer (some ⟨py, 0, none⟩)) rfl (by kernel_rfl) (by kernel_rfl) (by kernel_rfl) (fun _ _ _ h => h) (Or.inl ⟨by rfl, fun w => by go_simp⟩) ?_
  simp only [Act.put, List.setIfInBounds_toArray, List.set_cons_zero, List.set_cons_succ]
  refine wpAny_take (i := 10) (v := .pointer (some ⟨px, 0, none⟩)) rfl (by kernel_rfl) (by kernel_rfl) (by kernel_rfl) (fun _ _ _ h => h) (Or.inl ⟨by rfl, fun w => by go_simp⟩) ?_
  simp only [Act.put, List.setIfInBounds_toArray, List.set_cons_zero, List.set_cons_succ]
  refine wpAny_take (i := 11) (v := .pointer (some ⟨px, 0, none⟩)) rfl (by kernel_rfl) (by kernel_rfl) (by kernel_rfl) (fun _ _ _ h => h) (Or.inl ⟨by rfl, fun w => by go_simp⟩) ?_
  simp only [Act.put, List.setIfInBounds_toArray, List.set_cons_zero, List.set_cons_succ]
  refine wpAny_take (i := 12) (v := .pointer (some ⟨px, 1, none⟩)) rfl (by kernel_rfl) (by kernel_rfl) (by kernel_rfl) (fun _ _ _ h => h) (Or.inl ⟨by rfl, fun w => by go_simp⟩) ?_
  simp only [Act.put, List.setIfInBounds_toArray, List.set_cons_zero, List.set_cons_succ]
  refine wpAny_take (i := 14) (v := .pointer (some ⟨py, 0, none⟩)) rfl (by kernel_rfl) (by kernel_rfl) (by kernel_rfl) (fun _ _ _ h => h) (Or.inl ⟨by rfl, fun w => by go_simp⟩) ?_
  simp only [Act.put, List.setIfInBounds_toArray, List.set_cons_zero, List.set_cons_succ]
  refine wpAny_take (i := 15) (v := .pointer (some ⟨py, 0, none⟩)) rfl (by kernel_rfl) (by kernel_rfl) (by kernel_rfl) (fun _ _ _ h => h) (Or.inl ⟨by rfl, fun w => by go_simp⟩) ?_
  simp only [Act.put, List.setIfInBounds_toArray, List.set_cons_zero, List.set_cons_succ]
  refine wpAny_take (i := 16) (v := .pointer (some ⟨py, 1, none⟩)) rfl (by kernel_rfl) (by kernel_rfl) (by kernel_rfl) (fun _ _ _ h => h) (Or.inl ⟨by rfl, fun w => by go_simp⟩) ?_
  simp only [Act.put, List.setIfInBounds_toArray, List.set_cons_zero, List.set_cons_succ]
  refine any_of_L (g := 19) (T := fun w' => w.grownBy w' none) _ _ _ _ ?_
  refine L_take2 (i := 4) (m := 9) (v := .bool nx) rfl rfl rfl (by kernel_rfl) (by kernel_rfl) (by decide) (by kernel_rfl) (by kernel_rfl) (by kernel_rfl) (by kernel_rfl) (by kernel_rfl) (fun _ _ _ h => h) (Or.inl ⟨by rfl, fun w' hw' => by have c := gx0.out w' hw'; go_simp⟩) (gdr w) ?_
  simp only [Act.put, List.setIfInBounds_toArray, List.set_cons_zero, List.set_cons_succ]
  refine L_take2 (i := 8) (m := 9) (v := .bool ny) rfl rfl rfl (by kernel_rfl) (by kernel_rfl) (by decide) (by kernel_rfl) (by kernel_rfl) (by kernel_rfl) (by kernel_rfl) (by kernel_rfl) (fun _ _ _ h => h) (Or.inl ⟨by rfl, fun w' hw' => by have c := gy0.out w' hw'; go_simp⟩) (gdr w) ?_
  simp only [Act.put, List.setIfInBounds_toArray, List.set_cons_zero, List.set_cons_succ]
  refine L_take (i := 9) (v := .bool (nx != ny)) rfl rfl (by kernel_rfl) (by decide) (by kernel_rfl) (by kernel_rfl) (by kernel_rfl) (by kernel_rfl) (fun _ _ _ h => h) (Or.inl ⟨by rfl, fun w' hw' => by go_simp; cases nx <;> cases ny <;> rfl⟩) (gdr w) ?_
  simp only [Act.put, List.setIfInBounds_toArray, List.set_cons_zero, List.set_cons_succ]
  refine L_take2 (i := 13) (m := 18) (v := vx) rfl rfl rfl (by kernel_rfl) (by kernel_rfl) (by decide) (by kernel_rfl) (by kernel_rfl) (by kernel_rfl) (by kernel_rfl) (by kernel_rfl) (fun _ _ _ h => h) (Or.inl ⟨by rfl, fun w' hw' => by have c := gx1.out w' hw'; go_simp⟩) (gdr w) ?_
  simp only [Act.put, List.setIfInBounds_toArray, List.set_cons_zero, List.set_cons_succ]
  refine L_take2 (i := 17) (m := 18) (v := vy) rfl rfl rfl (by kernel_rfl) (by kernel_rfl) (by decide) (by kernel_rfl) (by kernel_rfl) (by kernel_rfl) (by kernel_rfl) (by kernel_rfl) (fun _ _ _ h => h) (Or.inl ⟨by rfl, fun w' hw' => by have c := gy1.out w' hw'; go_simp⟩) (gdr w) ?_
  simp only [Act.put, List.setIfInBounds_toArray, List.set_cons_zero, List.set_cons_succ]
  refine L_one (i := 18) (by kernel_rfl) ?_
  refine wpOp_step rfl (fun K hK => ?_)
  rw [if_pos (by rfl)]
  go_wp2_with fail
  refine (mulC.out _ (gdr w)).mono ?_
  rintro e w1 ⟨v, l, rfl, hm⟩
  refine hK _ _ ⟨hm.2.2.2, ?_⟩
  clear hK K
  have Hm : Hid (Mid w w1 (nx != ny) v l X) := hm
  clear hm
  refine L_go (by kernel_rfl) (by kernel_rfl) ?_
  refine wpOp_step rfl (fun K hK => ?_)
  rw [if_pos (by rfl)]
  go_wp2_with fail
  refine (giveC.out _ v l w1 X Hm.out).mono ?_
  rintro e w2 ⟨rfl, hR⟩
  refine hK _ _ ?_
  clear hK K Hm
  refine any_one (i := 20) (by kernel_rfl) ?_
  refine wpOp_step rfl (fun K hK => ?_)
  rw [if_pos (by rfl)]
  have hK' : Shut (∀ a w, wpAny _ _ _ _ _ _ a w → K a w) := hK
  clear hK
  go_wp2
  refine hK'.out _ _ ?_
  clear hK' K
  refine wpAny_done (by kernel_rfl) ?_ _
  go_wp2
  go_ret
  exact ⟨rfl, hR⟩
end Go.Proofs.YtioegjmcpjnmnaaGreatDoor

namespace Go.Proofs.YtioegjmcpjnmnaaGreatDoor.Math
set_option linter.unusedVariables false
/-- The invariant of one step of the long division: u < y, y = y1*b + y0. -/
structure DivSt (u u1 y1 y0 q r : Nat) : Prop where
  eq : u = q * y1 + r
  ge : (u * 4294967296 + u1) / (y1 * 4294967296 + y0) ≤ q

theorem div_start (u u1 y1 y0 : Nat) (h1 : 0 < y1) (hu1 : u1 < 4294967296) : DivSt u u1 y1 y0 (u / y1) (u % y1) := by
  refine ⟨?_, ?_⟩
  · have := Nat.div_add_mod u y1
    rw [Nat.mul_comm] at this; omega
  · have hy : 0 < y1 * 4294967296 + y0 := by omega
    rw [Nat.div_le_iff_le_mul_add_pred hy]
    have e := Nat.div_add_mod u y1
    have l := Nat.mod_lt u h1
    generalize u / y1 = q at *
    generalize u % y1 = r at *
    have e2 : (y1 * 4294967296 + y0) * q = y1 * q * 4294967296 + y0 * q := by
      rw [Nat.add_mul, Nat.mul_right_comm]
    rw [e2]
    generalize y1 * q = t at *
    generalize y0 * q = t0 at *
    omega

theorem quo_lt (u u1 y : Nat) (hu : u < y) (hu1 : u1 < 4294967296) : (u * 4294967296 + u1) / y < 4294967296 := by
  rw [Nat.div_lt_iff_lt_mul (by omega)]
  omega

/-- A round: the guess was too great, so one less is no less than the quotient. -/
theorem div_round (u u1 y1 y0 q r : Nat) (h : DivSt u u1 y1 y0 q r) (hu : u < y1 * 4294967296 + y0) (hu1 : u1 < 4294967296)
    (hc : 4294967296 ≤ q ∨ r * 4294967296 + u1 < q * y0) : 1 ≤ q ∧ DivSt u u1 y1 y0 (q - 1) (r + y1) := by
  have hq : (u * 4294967296 + u1) / (y1 * 4294967296 + y0) < q := by
    rcases hc with hc | hc
    · exact Nat.lt_of_lt_of_le (quo_lt u u1 _ hu hu1) hc
    · rw [Nat.div_lt_iff_lt_mul (by omega)]
      have e := h.eq
      have e2 : q * (y1 * 4294967296 + y0) = q * y1 * 4294967296 + q * y0 := by
        rw [Nat.mul_add, Nat.mul_assoc]
      rw [e2, e, Nat.add_mul, Nat.add_assoc]
      exact Nat.add_lt_add_left hc _
  have h1 : 1 ≤ q := Nat.lt_of_le_of_lt (Nat.zero_le _) hq
  refine ⟨h1, ?_, Nat.le_sub_one_of_lt hq⟩
  have e := h.eq
  obtain ⟨p, rfl⟩ : ∃ p, q = p + 1 := ⟨q - 1, by omega⟩
  simp only [Nat.add_sub_cancel]
  rw [Nat.add_mul] at e
  omega

theorem div_stop (u u1 y1 y0 q r : Nat) (h : DivSt u u1 y1 y0 q r) (hu : u < y1 * 4294967296 + y0)
    (hc : q * y0 ≤ r * 4294967296 + u1) : q = (u * 4294967296 + u1) / (y1 * 4294967296 + y0) := by
  refine Nat.le_antisymm ?_ h.ge
  rw [Nat.le_div_iff_mul_le (by omega)]
  have e := h.eq
  have e2 : q * (y1 * 4294967296 + y0) = q * y1 * 4294967296 + q * y0 := by
    rw [Nat.mul_add, Nat.mul_assoc]
  rw [e2]
  generalize q * y1 = t at *
  generalize q * y0 = t0 at *
  omega

theorem div_break (u u1 y1 y0 q r : Nat) (h : DivSt u u1 y1 y0 q r) (hu : u < y1 * 4294967296 + y0) (h0 : y0 < 4294967296)
    (hr : 4294967296 ≤ r) : q = (u * 4294967296 + u1) / (y1 * 4294967296 + y0) := by
  have hq : q < 4294967296 := by
    apply Classical.byContradiction
    intro hn
    have hn : 4294967296 ≤ q := by omega
    have e := h.eq
    have := Nat.mul_le_mul_right y1 hn
    generalize q * y1 = t at *
    omega
  refine div_stop u u1 y1 y0 q r h hu ?_
  have := Nat.mul_le_mul (Nat.le_of_lt hq) (Nat.le_of_lt h0)
  omega

theorem shift_split (lo P Q : Nat) (hPQ : P * Q = 18446744073709551616) : lo / Q * 18446744073709551616 + lo * P % 18446744073709551616 = lo * P := by
  have hP : 0 < P := by
    rcases Nat.eq_zero_or_pos P with h | h
    · rw [h, Nat.zero_mul] at hPQ; omega
    · exact h
  have e : lo * P / 18446744073709551616 = lo / Q := by
    rw [← hPQ, Nat.mul_comm P Q, Nat.mul_div_mul_right _ _ hP]
  have := Nat.div_add_mod (lo * P) 18446744073709551616
  rw [e] at this
  omega

theorem two_steps (U32 un1 un0 Y : Nat) (hY : 0 < Y) :
    (U32 * 18446744073709551616 + (un1 * 4294967296 + un0)) / Y = (U32 * 4294967296 + un1) / Y * 4294967296 + ((U32 * 4294967296 + un1) % Y * 4294967296 + un0) / Y ∧
    (U32 * 18446744073709551616 + (un1 * 4294967296 + un0)) % Y = ((U32 * 4294967296 + un1) % Y * 4294967296 + un0) % Y := by
  have e : U32 * 18446744073709551616 + (un1 * 4294967296 + un0) = ((U32 * 4294967296 + un1) % Y * 4294967296 + un0) + Y * ((U32 * 4294967296 + un1) / Y * 4294967296) := by
    have h := Nat.div_add_mod (U32 * 4294967296 + un1) Y
    rw [← Nat.mul_assoc]
    generalize Y * ((U32 * 4294967296 + un1) / Y) = t at *
    generalize (U32 * 4294967296 + un1) % Y = r at *
    omega
  rw [e, Nat.add_mul_div_left _ _ hY, Nat.add_mul_mod_self_left]
  exact ⟨Nat.add_comm _ _, rfl⟩

theorem div64_math (hi lo y P Q : Nat) (hPQ : P * Q = 18446744073709551616) (hy : 0 < y) :
    let U := hi * P + lo / Q
    let V := lo * P % 18446744073709551616
    let Y := y * P
    (U * 4294967296 + V / 4294967296) / Y * 4294967296 + ((U * 4294967296 + V / 4294967296) % Y * 4294967296 + V % 4294967296) / Y = (hi * 18446744073709551616 + lo) / y ∧
    ((U * 4294967296 + V / 4294967296) % Y * 4294967296 + V % 4294967296) % Y / P = (hi * 18446744073709551616 + lo) % y := by
  intro U V Y
  have hP : 0 < P := by
    rcases Nat.eq_zero_or_pos P with h | h
    · rw [h, Nat.zero_mul] at hPQ; omega
    · exact h
  have hY : 0 < Y := Nat.mul_pos hy hP
  have h2 := two_steps U (V / 4294967296) (V % 4294967296) Y hY
  have e : U * 18446744073709551616 + (V / 4294967296 * 4294967296 + V % 4294967296) = (hi * 18446744073709551616 + lo) * P := by
    have h1 := shift_split lo P Q hPQ
    have h3 : V / 4294967296 * 4294967296 + V % 4294967296 = V := Nat.div_add_mod' _ _
    rw [h3]
    show (hi * P + lo / Q) * 18446744073709551616 + lo * P % 18446744073709551616 = _
    rw [Nat.add_mul, Nat.add_mul, Nat.add_assoc, h1, Nat.mul_right_comm]
  rw [e] at h2
  rw [← h2.1, ← h2.2]
  refine ⟨Nat.mul_div_mul_right _ _ hP, ?_⟩
  rw [Nat.mul_mod_mul_right, Nat.mul_div_cancel _ hP]
/-- What 64 bits with a sign hold. -/
def I64 (x : Int) : Prop := -9223372036854775808 ≤ x ∧ x ≤ 9223372036854775807

/-- The two words of a sum. -/
def loW (s : Int) : Int := s % 18446744073709551616
def hiW (s : Int) : Int := s / 18446744073709551616 % 18446744073709551616
theorem loW_bd (s : Int) : 0 ≤ loW s ∧ loW s < 18446744073709551616 := by unfold loW; omega
theorem hiW_bd (s : Int) : 0 ≤ hiW s ∧ hiW s < 18446744073709551616 := by unfold hiW; omega
/-- a word of an int: itself, or 2^64 more. -/
theorem loW_add (s a : Int) : (loW s + loW a) % 18446744073709551616 = loW (s + a) := by unfold loW; omega
theorem hiW_add (s a : Int) (h : I64 a) : (hiW s + (loW (a / 9223372036854775808) + (loW s + loW a) / 18446744073709551616)) % 18446744073709551616 = hiW (s + a) := by
  unfold hiW loW; unfold I64 at h
  have key : (s + a) / 18446744073709551616 = s / 18446744073709551616 + a / 9223372036854775808 + (s % 18446744073709551616 + a % 18446744073709551616) / 18446744073709551616 := by
    by_cases h0 : a < 0
    · have e1 : a / 9223372036854775808 = -1 := by omega
      have e2 : a % 18446744073709551616 = a + 18446744073709551616 := by omega
      rw [e1, e2]; omega
    · have e1 : a / 9223372036854775808 = 0 := by omega
      have e2 : a % 18446744073709551616 = a := by omega
      rw [e1, e2]; omega
  rw [key]
  generalize (s % 18446744073709551616 + a % 18446744073709551616) / 18446744073709551616 = c
  generalize s / 18446744073709551616 = p
  generalize a / 9223372036854775808 = q
  omega
/-- The carry of two words. -/
def cW (s a : Int) : Int := (loW s + loW a) / 18446744073709551616
theorem cW_bd (s a : Int) : 0 ≤ cW s a ∧ cW s a ≤ 1 := by have := loW_bd s; have := loW_bd a; unfold cW; omega
theorem hiW_step (s a : Int) (h : I64 a) : (hiW s + (a / 9223372036854775808 % 18446744073709551616 + cW s a) % 18446744073709551616) % 18446744073709551616 = hiW (s + a) := by
  rw [← hiW_add s a h]
  unfold cW
  generalize (loW s + loW a) / 18446744073709551616 = c
  unfold loW
  generalize a / 9223372036854775808 = q
  generalize hiW s = p
  omega
theorem sum_fits (s : Int) (h : -170141183460469231731687303715884105728 ≤ s ∧ s < 170141183460469231731687303715884105728) (x : Int)
    (hx : x = if loW s < 9223372036854775808 then loW s else loW s - 18446744073709551616) :
    (hiW s = loW (x / 9223372036854775808) ↔ I64 s) ∧ (I64 s → x = s) := by
  unfold hiW loW at *; unfold I64
  split at hx <;> omega
/-- One more, where what was cut off is more than a half, or is it and the whole is odd. -/
def upOf (w r d : Int) : Int := if 2 * r > d ∨ (2 * r = d ∧ w % 2 = 1) then 1 else 0
/-- The size of a part, rounded. -/
def partOf (m n d : Int) : Int := m * n / d + upOf (m * n / d) (m * n % d) d
def absI (a : Int) : Int := if a < 0 then -a else a
def ratioOk (a n d : Int) : Prop := partOf (absI a) n d ≤ 9223372036854775807 + (if a < 0 then 1 else 0)
def ratioV (a n d : Int) : Int := if a < 0 then -(partOf (absI a) n d) else partOf (absI a) n d

theorem absI_nonneg (a : Int) : 0 ≤ absI a := by unfold absI; split <;> omega
theorem absI_neg (a : Int) : absI (-a) = absI a := by unfold absI; split <;> split <;> omega
theorem upOf_bd (w r d : Int) : 0 ≤ upOf w r d ∧ upOf w r d ≤ 1 := by unfold upOf; split <;> omega

theorem near (m n d : Int) (hd : 1 ≤ d) : let t := partOf m n d
    2 * (m * n - t * d) ≤ d ∧ -d ≤ 2 * (m * n - t * d) ∧ ((2 * (m * n - t * d) = d ∨ 2 * (m * n - t * d) = -d) → t % 2 = 0) := by
  intro t
  have e := Int.mul_ediv_add_emod (m * n) d
  have l0 := Int.emod_nonneg (m * n) (b := d) (by omega)
  have l1 := Int.emod_lt_of_pos (m * n) (b := d) (by omega)
  have ht : t = m * n / d + upOf (m * n / d) (m * n % d) d := rfl
  generalize m * n = p at *
  generalize p / d = w at *
  generalize p % d = r at *
  have hm : t * d = d * w + upOf w r d * d := by rw [ht, Int.add_mul, Int.mul_comm w d]
  rw [hm]
  clear_value t
  subst ht
  generalize d * w = dw at *
  unfold upOf
  split
  · rename_i h
    rw [Int.one_mul]
    omega
  · rename_i h
    rw [Int.zero_mul]
    omega

theorem part_all (m d : Int) (hd : 1 ≤ d) : partOf m d d = m := by
  have e1 : m * d / d = m := Int.mul_ediv_cancel m (by omega)
  have e2 : m * d % d = 0 := Int.mul_emod_left m d
  unfold partOf upOf
  rw [e1, e2, if_neg (by omega)]
  omega

theorem part_bd (m n d : Int) (h0 : 0 ≤ m) (h1 : m ≤ 1000000000) (h2 : 0 ≤ n) (h3 : n ≤ 1000000000) (hd : 1 ≤ d) : 0 ≤ partOf m n d ∧ partOf m n d ≤ 1000000000000000001 := by
  have a := Int.mul_nonneg h0 h2
  have b : m * n ≤ 1000000000 * 1000000000 := Int.mul_le_mul h1 h3 h2 (by omega)
  have c := Int.ediv_nonneg a (by omega : (0 : Int) ≤ d)
  have e : m * n / d ≤ m * n := Int.ediv_le_self _ a
  have u := upOf_bd (m * n / d) (m * n % d) d
  unfold partOf
  omega

theorem part_nonneg (m n d : Int) (h0 : 0 ≤ m) (h2 : 0 ≤ n) (hd : 1 ≤ d) : 0 ≤ partOf m n d := by
  have a := Int.mul_nonneg h0 h2
  have c := Int.ediv_nonneg a (by omega : (0 : Int) ≤ d)
  have u := upOf_bd (m * n / d) (m * n % d) d
  unfold partOf
  omega

/-- MoneyRounds' facts. -/
theorem rounds_facts (a n d : Int) (ha : -1000000000 ≤ a ∧ a ≤ 1000000000) (hn : 0 ≤ n ∧ n ≤ 1000000000) (hd : 1 ≤ d) :
    ratioOk a n d ∧ ratioOk (-a) n d ∧ ratioOk a d d ∧ ratioV (-a) n d = -ratioV a n d ∧ ratioV a d d = a ∧
    2 * (a * n - ratioV a n d * d) ≤ d ∧ -d ≤ 2 * (a * n - ratioV a n d * d) ∧ ((2 * (a * n - ratioV a n d * d) = d ∨ 2 * (a * n - ratioV a n d * d) = -d) → ratioV a n d % 2 = 0) := by
  have hm0 := absI_nonneg a
  have hm1 : absI a ≤ 1000000000 := by unfold absI; split <;> omega
  have b := part_bd (absI a) n d hm0 hm1 hn.1 hn.2 hd
  have p := part_all (absI a) d hd
  have nr := near (absI a) n d hd
  simp only at nr
  refine ⟨?_, ?_, ?_, ?_, ?_, ?_⟩
  · unfold ratioOk; split <;> omega
  · unfold ratioOk; rw [absI_neg]; split <;> omega
  · unfold ratioOk; rw [p]; split <;> omega
  · unfold ratioV; rw [absI_neg]
    by_cases h : a < 0
    · rw [if_pos h, if_neg (by omega)]; omega
    · rw [if_neg h]
      by_cases h' : -a < 0
      · rw [if_pos h']
      · have : a = 0 := by omega
        rw [if_neg h']
        subst this
        have : partOf (absI 0) n d = 0 := by
          unfold absI partOf upOf; rw [if_neg (by omega)]; simp; omega
        omega
  · unfold ratioV; rw [p]; unfold absI; split <;> omega
  · unfold ratioV
    have e : a * n = if a < 0 then -(absI a * n) else absI a * n := by
      unfold absI; split
      · rw [Int.neg_mul, Int.neg_neg]
      · rfl
    rw [e]
    generalize absI a * n = x at *
    generalize hpt : partOf (absI a) n d = t at *
    by_cases h : a < 0
    · simp only [if_pos h, Int.neg_mul]
      generalize t * d = y at *
      omega
    · simp only [if_neg h]
      generalize t * d = y at *
      omega
end Go.Proofs.YtioegjmcpjnmnaaGreatDoor.Math

namespace Go.Proofs.YtioegjmcpjnmnaaGreatDoor
set_option linter.unusedVariables false
open Go.RowKit Big

theorem few_words {neg : Bool} {l : List Nat} (hn : Nrm l) (h1 : -340282366920938463463374607431768211456 < sg neg (val l)) (h2 : sg neg (val l) < 340282366920938463463374607431768211456) : l.length < 35184372088832 := by
  have hv : val l < 4294967296 ^ 4 := by
    have : (val l : Int) < 340282366920938463463374607431768211456 := by unfold sg at *; cases neg <;> simp at h1 h2 <;> omega
    have e : (4294967296 : Nat) ^ 4 = 340282366920938463463374607431768211456 := by decide
    rw [e]; omega
  rcases Nat.eq_zero_or_pos l.length with h0 | h0
  · omega
  · have h3 := val_ge hn h0
    apply Classical.byContradiction
    intro hc
    have : 4294967296 ^ 4 ≤ 4294967296 ^ (l.length - 1) := Nat.pow_le_pow_right (by omega) (by omega)
    omega

/-- The sum, or 0; 0, or the fault's number. -/
def rV (s : Int) : Int := if -9223372036854775808 ≤ s ∧ s ≤ 9223372036854775807 then s else 0
def rE (s : Int) : Int := if -9223372036854775808 ≤ s ∧ s ≤ 9223372036854775807 then 0 else 10

end Go.Proofs.YtioegjmcpjnmnaaGreatDoor

namespace Go.Proofs.YtioegjmcpjnmnaaGreatDoor
set_option linter.unusedVariables false
open Go.RowKit Big

/-- A number of few words. -/
def Few (x : Int) : Prop := -340282366920938463463374607431768211456 < x ∧ x < 340282366920938463463374607431768211456

theorem BigIs.blk {w : World} {p : Nat} {x : Int} (h : BigIs w p x) : ∃ n v, w.heap[p]? = some (.cells #[.bool n, v] 86 (0, 0)) ∧ ∀ k i, v ≠ .int k i := by
  obtain ⟨n, v, l, hb, _⟩ := h
  exact ⟨n, v, hb.blk, hb.wd.noInt⟩
theorem BigIs.lt {w : World} {p : Nat} {x : Int} (h : BigIs w p x) : p < w.heap.size := by
  obtain ⟨n, v, hb, _⟩ := h.blk
  exact blk_lt hb
theorem BigIs.kept {w w' : World} {p q : Nat} {x y : Int} (h : BigIs w p x) (hne : p ≠ q) (hq : BigIs w q y) (hg : w.grownBy w' (some q)) : BigIs w' p x := by
  obtain ⟨n, v, hb, hv⟩ := hq.blk
  exact h.keepBy hne hb hv hg
theorem bigis_new (w : World) : BigIs (w.alloc (.cells #[.bool false, .slice none 0 0] 86)) w.heap.size 0 :=
  ⟨false, .slice none 0 0, [], ⟨alloc_blk _ _, wd_nil _ _ _, .inl rfl, fun h => by cases h⟩, rfl⟩

theorem sub_big (pz px py : Nat) (z x y : Int) (w : World) (hz : BigIs w pz z) (hx : BigIs w px x) (hy : BigIs w py y) (bx : Few x) (by_ : Few y) :
    Calls Tryz.prog 35 #[.pointer (some ⟨pz, 0, none⟩), .pointer (some ⟨px, 0, none⟩), .pointer (some ⟨py, 0, none⟩)] w fun e w' => e = .returned (.pointer (some ⟨pz, 0, none⟩)) ∧ Hid (BigIs w' pz (x - y) ∧ w.grownBy w' (some pz)) := by
  obtain ⟨nz, vz, hb, hv⟩ := hz.blk
  obtain ⟨nx, vx, lx, hx, rfl⟩ := hx
  obtain ⟨ny, vy, ly, hy, rfl⟩ := hy
  exact Sub_any pz px py nz nx ny vz vx vy lx ly w hb hv hx hy (few_words hx.nrm bx.1 bx.2) (few_words hy.nrm by_.1 by_.2)

theorem mul_big (pz px py : Nat) (z x y : Int) (w : World) (hz : BigIs w pz z) (hx : BigIs w px x) (hy : BigIs w py y) (bx : Few x) (by_ : Few y) :
    Calls Tryz.prog 33 #[.pointer (some ⟨pz, 0, none⟩), .pointer (some ⟨px, 0, none⟩), .pointer (some ⟨py, 0, none⟩)] w fun e w' => e = .returned (.pointer (some ⟨pz, 0, none⟩)) ∧ Hid (BigIs w' pz (x * y) ∧ w.grownBy w' (some pz)) := by
  obtain ⟨nz, vz, hb, hv⟩ := hz.blk
  obtain ⟨nx, vx, lx, hx, rfl⟩ := hx
  obtain ⟨ny, vy, ly, hy, rfl⟩ := hy
  exact Mul_any pz px py nz nx ny vz vx vy lx ly w hb hv hx hy (few_words hx.nrm bx.1 bx.2) (few_words hy.nrm by_.1 by_.2)

/-- A number's sign is told by its first cell. -/
theorem BigIs.neg {w : World} {p : Nat} {x : Int} (h : BigIs w p x) : w.cell? ⟨p, 0, none⟩ = some (.bool (decide (x < 0))) := by
  obtain ⟨n, v, l, hb, rfl⟩ := h
  rw [blk_cell0 hb.blk]
  have : n = decide (sg n (val l) < 0) := by
    cases n
    · simp [sg]
    · have h0 := hb.sgn rfl
      have h1 := val_ge hb.nrm h0
      have h2 := Nat.pow_pos (n := l.length - 1) (by omega : 0 < 4294967296)
      simp [sg]; omega
  rw [← this]

theorem one_word {n : Bool} {l : List Nat} (hn : Nrm l) (ho : Ok l) (y : Int) (h : sg n (val l) = y) (h0 : 0 < y) (h1 : y < 4294967296) : l.length = 1 ∧ n = false ∧ (val l : Int) = y := by
  have hf : n = false := by
    cases n
    · rfl
    · simp [sg] at h; omega
  subst hf
  have hv : (val l : Int) = y := by simpa [sg] using h
  refine ⟨?_, rfl, hv⟩
  have p0 : 0 < l.length := by
    rcases Nat.eq_zero_or_pos l.length with h | h
    · rw [List.eq_nil_of_length_eq_zero h] at hv; simp [val] at hv; omega
    · exact h
  have h2 := val_ge hn p0
  apply Classical.byContradiction
  intro hc
  have h3 : 4294967296 ^ 1 ≤ 4294967296 ^ (l.length - 1) := Nat.pow_le_pow_right (by omega) (by omega)
  omega

theorem sg_tdiv (n : Bool) (a b : Nat) : sg n (a / b) = (sg n a).tdiv b := by
  cases n
  · show ((a / b : Nat) : Int) = (a : Int).tdiv b
    rw [Int.tdiv_eq_ediv_of_nonneg (by omega)]; rfl
  · show -((a / b : Nat) : Int) = (-(a : Int)).tdiv b
    rw [Int.neg_tdiv, Int.tdiv_eq_ediv_of_nonneg (by omega)]; rfl
theorem sg_tmod (n : Bool) (a b : Nat) : sg n (a % b) = (sg n a).tmod b := by
  cases n
  · show ((a % b : Nat) : Int) = (a : Int).tmod b
    rw [Int.tmod_eq_emod_of_nonneg (by omega)]; rfl
  · show -((a % b : Nat) : Int) = (-(a : Int)).tmod b
    rw [Int.neg_tmod, Int.tmod_eq_emod_of_nonneg (by omega)]; rfl

theorem quoRem_big (pz px py pr : Nat) (z r x y : Int) (w : World) (hz : BigIs w pz z) (hr : BigIs w pr r) (hne : pz ≠ pr) (hx : BigIs w px x) (hy : BigIs w py y) (bx : Few x) (y0 : 0 < y) (y1 : y < 4294967296) :
    Calls Tryz.prog 57 #[.pointer (some ⟨pz, 0, none⟩), .pointer (some ⟨px, 0, none⟩), .pointer (some ⟨py, 0, none⟩), .pointer (some ⟨pr, 0, none⟩)] w fun e w' => e = .returned (.tuple #[.pointer (some ⟨pz, 0, none⟩), .pointer (some ⟨pr, 0, none⟩)]) ∧ Hid (QREnd w w' pz pr (x.tdiv y) (x.tmod y)) := by
  obtain ⟨nz, vz, hb, hv⟩ := hz.blk
  obtain ⟨nr, vr, hb2, hv2⟩ := hr.blk
  obtain ⟨nx, vx, lx, hx, ex⟩ := hx
  obtain ⟨ny, vy, ly, hy, ey⟩ := hy
  obtain ⟨l1, l2, l3⟩ := one_word hy.nrm hy.wd.ok y ey y0 y1
  have key := QuoRem_any pz px py pr nz nr nx ny vz vr vx vy lx ly w hb hv hb2 hv2 hne hx hy (by subst ex; exact few_words hx.nrm bx.1 bx.2) (.inl l1)
  subst l2
  have e0 : (nx != false) = nx := by cases nx <;> rfl
  have e1 : sg (nx != false) (val lx / val ly) = x.tdiv y := by rw [e0, ← ex, ← l3]; exact sg_tdiv _ _ _
  have e2 : sg nx (val lx % val ly) = x.tmod y := by rw [← ex, ← l3]; exact sg_tmod _ _ _
  rw [e1, e2] at key
  exact key

/-- The quotient rounded down, and its rest, by the quotient rounded to nought. -/
theorem floor_of (x y : Int) (h : 0 < y) : (x.tmod y < 0 → x / y = x.tdiv y - 1 ∧ x % y = x.tmod y + y) ∧ (¬ x.tmod y < 0 → x / y = x.tdiv y ∧ x % y = x.tmod y) := by
  have e1 := Int.mul_tdiv_add_tmod x y
  have e2 := Int.mul_ediv_add_emod x y
  have b1 := Int.emod_nonneg x (b := y) (by omega)
  have b2 := Int.emod_lt_of_pos x h
  have b3 : -y < x.tmod y ∧ x.tmod y < y := by
    rcases Int.le_total 0 x with hx | hx
    · have := Int.tmod_nonneg y hx
      have := Int.tmod_lt_of_pos x h
      omega
    · have h1 := Int.tmod_nonneg y (a := -x) (by omega)
      have h2 := Int.tmod_lt_of_pos (-x) h
      rw [Int.neg_tmod] at h1 h2
      omega
  generalize x.tdiv y = q at *
  generalize x.tmod y = r at *
  generalize x / y = Q at *
  generalize x % y = R at *
  have key : ∀ k : Int, y * Q - y * q = y * k → -y < y * k - 0 → True := fun _ _ _ => trivial
  constructor
  · intro hr
    have : y * (Q - (q - 1)) = r + y - R := by rw [Int.mul_sub, Int.mul_sub, Int.mul_one]; omega
    have hk : Q - (q - 1) = 0 := by
      apply Classical.byContradiction
      intro hc
      rcases (by omega : Q - (q - 1) ≤ -1 ∨ 1 ≤ Q - (q - 1)) with h' | h'
      · have := Int.mul_le_mul_of_nonneg_left h' (by omega : 0 ≤ y); omega
      · have := Int.mul_le_mul_of_nonneg_left h' (by omega : 0 ≤ y); omega
    rw [hk] at this
    omega
  · intro hr
    have : y * (Q - q) = r - R := by rw [Int.mul_sub]; omega
    have hk : Q - q = 0 := by
      apply Classical.byContradiction
      intro hc
      rcases (by omega : Q - q ≤ -1 ∨ 1 ≤ Q - q) with h' | h'
      · have := Int.mul_le_mul_of_nonneg_left h' (by omega : 0 ≤ y); omega
      · have := Int.mul_le_mul_of_nonneg_left h' (by omega : 0 ≤ y); omega
    rw [hk] at this
    omega

theorem few_tdiv {x y : Int} (h : Few x) (hy : 0 < y) : Few (x.tdiv y) ∧ Few (x.tmod y) := by
  have b : ∀ a : Int, 0 ≤ a → 0 ≤ a.tdiv y ∧ a.tdiv y ≤ a ∧ 0 ≤ a.tmod y ∧ a.tmod y ≤ a := fun a ha => by
    rw [Int.tdiv_eq_ediv_of_nonneg ha, Int.tmod_eq_emod_of_nonneg ha]
    have h1 := Int.ediv_nonneg ha (by omega : 0 ≤ y)
    have h2 : a / y ≤ a := Int.ediv_le_self _ ha
    have h3 := Int.emod_nonneg a (b := y) (by omega)
    have h4 := Int.mul_ediv_add_emod a y
    have h5 := Int.mul_nonneg (by omega : 0 ≤ y) h1
    omega
  unfold Few at *
  rcases Int.le_total 0 x with hx | hx
  · have := b x hx; omega
  · have := b (-x) (by omega)
    rw [Int.neg_tdiv, Int.neg_tmod] at this
    omega

/-- What DivMod leaves. -/
def DMEnd (w w' : World) (pz pm : Nat) (X Y : Int) : Prop := BigIs w' pz X ∧ BigIs w' pm Y ∧ Grown2 w w' pz pm ∧ ∀ p x, p ≠ pz → p ≠ pm → BigIs w p x → BigIs w' p x

theorem Grown2.first {a b c : World} {p q : Nat} (h : a.grownBy b none) (k : Grown2 b c p q) : Grown2 a c p q :=
  ⟨k.os.trans h.os, k.tape.trans h.tape, k.output.trans h.output, Nat.le_trans h.size k.size, fun i hi hp hq => (k.block i (Nat.lt_of_lt_of_le hi h.size) hp hq).trans (h.block i hi (by simp))⟩
theorem Grown2.then {a b c : World} {p q r : Nat} (h : Grown2 a b p q) (k : b.grownBy c (some r)) (hr : r = p ∨ r = q ∨ a.heap.size ≤ r) : Grown2 a c p q :=
  ⟨k.os.trans h.os, k.tape.trans h.tape, k.output.trans h.output, Nat.le_trans h.size k.size, fun i hi hp hq => (k.block i (Nat.lt_of_lt_of_le hi h.size) (fun e => by have := Option.some.inj e; omega)).trans (h.block i hi hp hq)⟩
theorem Grown2.none {a b c : World} {p q : Nat} (h : Grown2 a b p q) (k : b.grownBy c none) : Grown2 a c p q :=
  ⟨k.os.trans h.os, k.tape.trans h.tape, k.output.trans h.output, Nat.le_trans h.size k.size, fun i hi hp hq => (k.block i (Nat.lt_of_lt_of_le hi h.size) (by simp)).trans (h.block i hi hp hq)⟩

end Go.Proofs.YtioegjmcpjnmnaaGreatDoor

namespace Go.Proofs.YtioegjmcpjnmnaaGreatDoor
set_option linter.unusedVariables false
set_option linter.unusedSimpArgs false
open Go.RowKit Big

/-- A number of 63 bits, no less than 0. -/
def Mid63 (x : Int) : Prop := 0 ≤ x ∧ x < 9223372036854775808
theorem Mid63.few {x : Int} (h : Mid63 x) : Few x := by unfold Mid63 at h; unfold Few; omega

theorem mid_open {w : World} {p : Nat} {x : Int} (h : BigIs w p x) (hm : Mid63 x) : ∃ v l, IsBig w p false v l ∧ (val l : Int) = x ∧ l.length ≤ 2 := by
  obtain ⟨n, v, l, hb, hx⟩ := h
  have hn : n = false := by
    cases n
    · rfl
    · have h0 := hb.sgn rfl
      have h1 := val_ge hb.nrm h0
      have h2 := Nat.pow_pos (n := l.length - 1) (by omega : 0 < 4294967296)
      have : sg true (val l) = -(val l : Int) := rfl
      rw [this] at hx
      have := hm.1
      omega
  subst hn
  have hv : (val l : Int) = x := hx
  exact ⟨v, l, hb, hv, len_two hb.wd.ok hb.nrm (by have := hm.2; omega)⟩

theorem quoRem_mid (pz px py pr : Nat) (z r x y : Int) (w : World) (hz : BigIs w pz z) (hr : BigIs w pr r) (hne : pz ≠ pr) (hx : BigIs w px x) (hy : BigIs w py y) (bx : Mid63 x) (by_ : Mid63 y) (y0 : 0 < y) :
    Calls Tryz.prog 57 #[.pointer (some ⟨pz, 0, none⟩), .pointer (some ⟨px, 0, none⟩), .pointer (some ⟨py, 0, none⟩), .pointer (some ⟨pr, 0, none⟩)] w fun e w' => e = .returned (.tuple #[.pointer (some ⟨pz, 0, none⟩), .pointer (some ⟨pr, 0, none⟩)]) ∧ Hid (QREnd w w' pz pr (x / y) (x % y)) := by
  obtain ⟨nz, vz, hb, hv⟩ := hz.blk
  obtain ⟨nr, vr, hb2, hv2⟩ := hr.blk
  obtain ⟨vx, lx, hx, ex, l2⟩ := mid_open hx bx
  obtain ⟨vy, ly, hy, ey, l3⟩ := mid_open hy by_
  have p0 : 0 < ly.length := by
    rcases Nat.eq_zero_or_pos ly.length with h | h
    · rw [List.eq_nil_of_length_eq_zero h] at ey; simp [val] at ey; omega
    · exact h
  have key := QuoRem_any pz px py pr nz nr false false vz vr vx vy lx ly w hb hv hb2 hv2 hne hx hy (by omega) (.inr ⟨p0, l2⟩)
  have e1 : sg (false != false) (val lx / val ly) = x / y := by rw [← ex, ← ey]; rfl
  have e2 : sg false (val lx % val ly) = x % y := by rw [← ex, ← ey]; rfl
  rw [e1, e2] at key
  exact key

theorem quo_big (pz px py : Nat) (z x y : Int) (w : World) (hz : BigIs w pz z) (hx : BigIs w px x) (hy : BigIs w py y) (bx : Mid63 x) (by_ : Mid63 y) (y0 : 0 < y) :
    Calls Tryz.prog 34 #[.pointer (some ⟨pz, 0, none⟩), .pointer (some ⟨px, 0, none⟩), .pointer (some ⟨py, 0, none⟩)] w fun e w' => e = .returned (.pointer (some ⟨pz, 0, none⟩)) ∧ Hid (BigIs w' pz (x / y) ∧ w.grownBy w' (some pz) ∧ ∀ p u, p ≠ pz → BigIs w p u → BigIs w' p u) := by
  have ga := World.grownBy_alloc w (.cells #[.bool false, .slice none 0 0] 86) Option.none
  have lz := hz.lt
  have Q : Hid (Calls Tryz.prog 57 #[.pointer (some ⟨pz, 0, none⟩), .pointer (some ⟨px, 0, none⟩), .pointer (some ⟨py, 0, none⟩), .pointer (some ⟨w.heap.size, 0, none⟩)] (w.alloc (.cells #[.bool false, .slice none 0 0] 86)) fun e w' => e = .returned (.tuple #[.pointer (some ⟨pz, 0, none⟩), .pointer (some ⟨w.heap.size, 0, none⟩)]) ∧ Hid (BigIs w' pz (x / y) ∧ w.grownBy w' (some pz) ∧ ∀ p u, p ≠ pz → BigIs w p u → BigIs w' p u)) := by
    refine (quoRem_mid pz px py w.heap.size z 0 x y _ (hz.growBy ga) (bigis_new w) (by omega) (hx.growBy ga) (hy.growBy ga) bx by_ y0).mono ?_
    rintro e w' ⟨rfl, hR⟩
    obtain ⟨a1, a2, a3, a4⟩ := hR.out
    refine ⟨rfl, a1, ⟨a3.os.trans ga.os, a3.tape.trans ga.tape, a3.output.trans ga.output, Nat.le_trans ga.size a3.size, fun i hi hp => ?_⟩, fun p u hp hb => a4 p u hp (by have := hb.lt; omega) (hb.growBy ga)⟩
    rw [a3.block i (by simp; omega) (fun e => hp (by rw [e])) (by omega)]
    exact ga.block i hi (by simp)
  clear hz hx hy bx by_ y0 ga
  go_enter Tryz.func34, Tryz.ntmps34
  go_wp2_with fail
  refine Q.out.mono ?_
  rintro e w1 ⟨rfl, hR⟩
  clear Q
  go_wp2
  go_ret
  exact ⟨rfl, hR⟩

end Go.Proofs.YtioegjmcpjnmnaaGreatDoor
