/-
  The contracts of math/bits.Add64, money.Sum and money.Add: a sum, or none where it is not of 64 bits.
-/
import Derived.Test.YtpohlhejeaafdaaGreatDoorZj5
import Derived.Laws.NewBlocks
import Derived.RangeFuncRecord
import Derived.KernelRfl
import Derived.Test.YtpohlhejeaafdaaGreatDoorZj11
import Derived.Test.YtpohlhejeaafdaaGreatDoorRows
import Derived.WalkKit
import Derived.WalkSpells
import Derived.Laws.Externs
import Derived.Below
namespace Go.Proofs.YtpohlhejeaafdaaGreatDoor
set_option linter.unusedVariables false
set_option linter.unusedSimpArgs false
set_option maxRecDepth 100000
open Go.RowKit Go.Lib

/-- The laws' own chart. -/
def jC : List Ac := [⟨⟨#[49, 48]⟩, ⟨#[99, 97, 115, 104]⟩, 1, ⟨#[]⟩, true⟩, ⟨⟨#[50, 48]⟩, ⟨#[100, 101, 98, 116]⟩, 2, ⟨#[]⟩, true⟩, ⟨⟨#[51, 48]⟩, ⟨#[107, 101, 112, 116]⟩, 3, ⟨#[]⟩, false⟩, ⟨⟨#[52, 48]⟩, ⟨#[115, 97, 108, 101, 115]⟩, 4, ⟨#[]⟩, false⟩, ⟨⟨#[53, 48]⟩, ⟨#[99, 111, 115, 116]⟩, 5, ⟨#[]⟩, false⟩]
def jCells : Array Value := #[.string ⟨#[49, 48]⟩, .string ⟨#[99, 97, 115, 104]⟩, .int .i64 1, .string ⟨#[]⟩, .bool true, .string ⟨#[50, 48]⟩, .string ⟨#[100, 101, 98, 116]⟩, .int .i64 2, .string ⟨#[]⟩, .bool true, .string ⟨#[51, 48]⟩, .string ⟨#[107, 101, 112, 116]⟩, .int .i64 3, .string ⟨#[]⟩, .bool false, .string ⟨#[52, 48]⟩, .string ⟨#[115, 97, 108, 101, 115]⟩, .int .i64 4, .string ⟨#[]⟩, .bool false, .string ⟨#[53, 48]⟩, .string ⟨#[99, 111, 115, 116]⟩, .int .i64 5, .string ⟨#[]⟩, .bool false]
theorem jC_at (W : World) : IsSl (W.alloc (.cells jCells 80)) (some ⟨W.heap.size, 0, none⟩) jC 5 := by
  have h := World.alloc_heap_new W (.cells jCells 80)
  generalize W.alloc (.cells jCells 80) = V at *
  generalize W.heap.size = b at *
  refine ⟨Nat.le_refl _, .inr ⟨b, 0, rfl, (Array.getElem?_eq_some_iff.1 h).1, fun k hk => ?_⟩⟩
  rcases (by simp [jC] at hk; omega : k = 0 ∨ k = 1 ∨ k = 2 ∨ k = 3 ∨ k = 4) with rfl | rfl | rfl | rfl | rfl <;>
  exact ⟨by simp [World.cell?, h, jCells, jC], by simp [World.cell?, h, jCells, jC], by simp [World.cell?, h, jCells, jC], by simp [World.cell?, h, jCells, jC], by simp [World.cell?, h, jCells, jC]⟩
end Go.Proofs.YtpohlhejeaafdaaGreatDoor

namespace Go.Proofs.YtpohlhejeaafdaaGreatDoor
set_option linter.unusedVariables false
set_option linter.unusedSimpArgs false
set_option maxRecDepth 100000
open Go.RowKit Go.Lib

theorem jpair_new (W : World) (x0 x1 : ByteArray) (x2 : Int) (y0 y1 : ByteArray) (y2 : Int) (b : Nat) (hb : b = W.heap.size) :
    IsLn (W.alloc (.cells #[.string x0, .string x1, .int .i64 x2, .string y0, .string y1, .int .i64 y2] 44)) (some ⟨b, 0, none⟩) [⟨x0, x1, x2⟩, ⟨y0, y1, y2⟩] 2 := by
  subst hb
  have h := World.alloc_heap_new W (.cells #[.string x0, .string x1, .int .i64 x2, .string y0, .string y1, .int .i64 y2] 44)
  generalize W.alloc (.cells #[.string x0, .string x1, .int .i64 x2, .string y0, .string y1, .int .i64 y2] 44) = V at *
  generalize W.heap.size = b at *
  refine ⟨Nat.le_refl _, .inr ⟨b, 0, rfl, (Array.getElem?_eq_some_iff.1 h).1, fun k hk => ?_⟩⟩
  rcases (by simp at hk; omega : k = 0 ∨ k = 1) with rfl | rfl
  · exact ⟨by simp [World.cell?, h], by simp [World.cell?, h], by simp [World.cell?, h]⟩
  · exact ⟨by simp [World.cell?, h], by simp [World.cell?, h], by simp [World.cell?, h]⟩
theorem jfact_ok : entBad jC ⟨#[97]⟩ 1 1 [⟨⟨#[49, 48]⟩, ⟨#[69, 85, 82]⟩, 5⟩, ⟨⟨#[50, 48]⟩, ⟨#[69, 85, 82]⟩, -5⟩] = 0 := by kernel_rfl
theorem jfact_ok3 : entBad jC ⟨#[97]⟩ 1 1 [⟨⟨#[49, 48]⟩, ⟨#[69, 85, 82]⟩, 5⟩, ⟨⟨#[52, 48]⟩, ⟨#[69, 85, 82]⟩, -5⟩] = 0 := by kernel_rfl

/-- All entries are right, and no ref is there twice. -/
structure JGood (c : List Ac) (es : List Je) : Prop where
  ok : ∀ x ∈ es, entBad c x.ref x.ent x.per x.lns = 0
  one : (es.map (·.ref)).Nodup
theorem JGood.nil (c : List Ac) : JGood c [] := ⟨by simp, by simp⟩
theorem JGood.push {c : List Ac} {es : List Je} {x : Je} (h : JGood c es) (h0 : pBad c es x.ref x.ent x.per x.lns = 0) : JGood c (es ++ [x]) := by
  obtain ⟨h1, h2, _⟩ := pBad_zero.1 h0
  refine ⟨fun y hy => ?_, ?_⟩
  · rcases List.mem_append.1 hy with hy | hy
    · exact h.ok y hy
    · rw [List.mem_singleton.1 hy]; exact h1
  · rw [List.map_append, List.nodup_append]
    refine ⟨h.one, by simp, fun a ha b hb e => ?_⟩
    simp only [List.map_cons, List.map_nil, List.mem_singleton] at hb
    subst hb
    subst e
    exact isInR_not.1 h2 ha
theorem JGood.lns {c : List Ac} {es : List Je} (h : JGood c es) {x : Je} (hx : x ∈ es) : x.lns ≠ [] ∧ x.lns.length ≤ 20 := by
  obtain ⟨_, h2, _⟩ := entBad_zero.1 (h.ok x hx)
  have := headBad_len h2
  exact ⟨fun e => by rw [e] at this; simp at this, this.2⟩
theorem headBad_en {r : ByteArray} {en pe : Int} {n : Nat} (h : headBad r en pe n = 0) : 1 ≤ en ∧ en ≤ 12 ∧ 1 ≤ pe ∧ pe ≤ 120 := by
  unfold headBad at h
  split at h
  · omega
  · split at h
    · omega
    · rename_i h2
      simp only [not_or, upTo, Bool.not_eq_false, Bool.and_eq_true, decide_eq_true_eq] at h2
      omega
theorem JGood.ent {c : List Ac} {es : List Je} (h : JGood c es) {x : Je} (hx : x ∈ es) : 1 ≤ x.ent ∧ x.ent ≤ 12 ∧ 1 ≤ x.per ∧ x.per ≤ 120 := headBad_en (entBad_zero.1 (h.ok x hx)).2.1

/-- A journal with right entries. -/
def JSt (c : List Ac) (n0 bj bm : Nat) (es : List Je) (W : World) : Prop := (∃ v, JAt W n0 bj bm v es) ∧ JGood c es
theorem JSt.below {c : List Ac} {n0 bj bm : Nat} {es : List Je} {W W' : World} (h : JSt c n0 bj bm es W) (hb : Below W.heap.size W W') : JSt c n0 bj bm es W' := by
  obtain ⟨⟨v, h⟩, g⟩ := h
  exact ⟨⟨v, h.below hb⟩, g⟩
theorem jpost_step {c : List Ac} {n0 bj bm : Nat} {es : List Je} {W : World} (h : JSt c n0 bj bm es W) (hlen : es.length ≤ 1000000) (ca : Option Addr) (cc : Nat) (x : Je) (hc : IsSl W ca c cc) (hl : IsLn W x.adr x.lns x.cap) :
    Calls Tryz.prog 6 #[.pointer (some ⟨bj, 0, none⟩), .slice ca c.length cc, .agg #[.string x.ref, .int .i64 x.ent, .int .i64 x.per, .slice x.adr x.lns.length x.cap]] W fun e w' => ∃ n es', e = .returned (.tuple #[.int .i64 n, enE (pBad c es x.ref x.ent x.per x.lns)]) ∧ JSt c n0 bj bm es' w' ∧ es'.length ≤ es.length + 1 ∧ Below n0 W w' := by
  obtain ⟨⟨v, j⟩, g⟩ := h
  by_cases h0 : pBad c es x.ref x.ent x.per x.lns = 0
  · refine (post_ok j ca cc c x.ref x.ent x.per x.adr x.cap x.lns hc hl h0).mono ?_
    rintro e w' ⟨rfl, g', cp, a', cap', j', k, _⟩
    refine ⟨(es.length : Int), es ++ [⟨x.ref, x.ent, x.per, a', cap', x.lns⟩], ?_, ⟨⟨_, j'⟩, g.push h0⟩, by simp, k.below j⟩
    rw [h0, enE_zero]
  · refine (post_bad j hlen ca cc c x.ref x.ent x.per x.adr x.cap x.lns hc hl h0).mono ?_
    rintro e w' ⟨rfl, b⟩
    exact ⟨0, es, rfl, ⟨⟨v, j.below b⟩, g⟩, by omega, b.mono (by have := j.hj; have := j.ltj; omega)⟩
end Go.Proofs.YtpohlhejeaafdaaGreatDoor

namespace Go.Proofs.YtpohlhejeaafdaaGreatDoor.Math
set_option linter.unusedVariables false
/-- The invariant of one step of the long division: u < y, y = y1*b + y0. -/
structure DivSt (u u1 y1 y0 q r : Nat) : Prop where
  eq : u = q * y1 + r
  ge : (u * 4294967296 + u1) / (y1 * 4294967296 + y0) ≤ q

theorem div_start (u u1 y1 y0 : Nat) (h1 : 0 < y1) (hu1 : u1 < 4294967296) : DivSt u u1 y1 y0 (u / y1) (u % y1) := by
  refine ⟨?_, ?_⟩
  · have := Nat.div_add_mod u y1
    rw [Nat.mul_comm] at this; omega
  · have hy : 0 < y1 * 4294967296 + y0 := by omega
    rw [Nat.div_le_iff_le_mul_add_pred hy]
    have e := Nat.div_add_mod u y1
    have l := Nat.mod_lt u h1
    generalize u / y1 = q at *
    generalize u % y1 = r at *
    have e2 : (y1 * 4294967296 + y0) * q = y1 * q * 4294967296 + y0 * q := by
      rw [Nat.add_mul, Nat.mul_right_comm]
    rw [e2]
    generalize y1 * q = t at *
    generalize y0 * q = t0 at *
    omega

theorem quo_lt (u u1 y : Nat) (hu : u < y) (hu1 : u1 < 4294967296) : (u * 4294967296 + u1) / y < 4294967296 := by
  rw [Nat.div_lt_iff_lt_mul (by omega)]
  omega

/-- A round: the guess was too great, so one less is no less than the quotient. -/
theorem div_round (u u1 y1 y0 q r : Nat) (h : DivSt u u1 y1 y0 q r) (hu : u < y1 * 4294967296 + y0) (hu1 : u1 < 4294967296)
    (hc : 4294967296 ≤ q ∨ r * 4294967296 + u1 < q * y0) : 1 ≤ q ∧ DivSt u u1 y1 y0 (q - 1) (r + y1) := by
  have hq : (u * 4294967296 + u1) / (y1 * 4294967296 + y0) < q := by
    rcases hc with hc | hc
    · exact Nat.lt_of_lt_of_le (quo_lt u u1 _ hu hu1) hc
    · rw [Nat.div_lt_iff_lt_mul (by omega)]
      have e := h.eq
      have e2 : q * (y1 * 4294967296 + y0) = q * y1 * 4294967296 + q * y0 := by
        rw [Nat.mul_add, Nat.mul_assoc]
      rw [e2, e, Nat.add_mul, Nat.add_assoc]
      exact Nat.add_lt_add_left hc _
  have h1 : 1 ≤ q := Nat.lt_of_le_of_lt (Nat.zero_le _) hq
  refine ⟨h1, ?_, Nat.le_sub_one_of_lt hq⟩
  have e := h.eq
  obtain ⟨p, rfl⟩ : ∃ p, q = p + 1 := ⟨q - 1, by omega⟩
  simp only [Nat.add_sub_cancel]
  rw [Nat.add_mul] at e
  omega

theorem div_stop (u u1 y1 y0 q r : Nat) (h : DivSt u u1 y1 y0 q r) (hu : u < y1 * 4294967296 + y0)
    (hc : q * y0 ≤ r * 4294967296 + u1) : q = (u * 4294967296 + u1) / (y1 * 4294967296 + y0) := by
  refine Nat.le_antisymm ?_ h.ge
  rw [Nat.le_div_iff_mul_le (by omega)]
  have e := h.eq
  have e2 : q * (y1 * 4294967296 + y0) = q * y1 * 4294967296 + q * y0 := by
    rw [Nat.mul_add, Nat.mul_assoc]
  rw [e2]
  generalize q * y1 = t at *
  generalize q * y0 = t0 at *
  omega

theorem div_break (u u1 y1 y0 q r : Nat) (h : DivSt u u1 y1 y0 q r) (hu : u < y1 * 4294967296 + y0) (h0 : y0 < 4294967296)
    (hr : 4294967296 ≤ r) : q = (u * 4294967296 + u1) / (y1 * 4294967296 + y0) := by
  have hq : q < 4294967296 := by
    apply Classical.byContradiction
    intro hn
    have hn : 4294967296 ≤ q := by omega
    have e := h.eq
    have := Nat.mul_le_mul_right y1 hn
    generalize q * y1 = t at *
    omega
  refine div_stop u u1 y1 y0 q r h hu ?_
  have := Nat.mul_le_mul (Nat.le_of_lt hq) (Nat.le_of_lt h0)
  omega

theorem shift_split (lo P Q : Nat) (hPQ : P * Q = 18446744073709551616) : lo / Q * 18446744073709551616 + lo * P % 18446744073709551616 = lo * P := by
  have hP : 0 < P := by
    rcases Nat.eq_zero_or_pos P with h | h
    · rw [h, Nat.zero_mul] at hPQ; omega
    · exact h
  have e : lo * P / 18446744073709551616 = lo / Q := by
    rw [← hPQ, Nat.mul_comm P Q, Nat.mul_div_mul_right _ _ hP]
  have := Nat.div_add_mod (lo * P) 18446744073709551616
  rw [e] at this
  omega

theorem two_steps (U32 un1 un0 Y : Nat) (hY : 0 < Y) :
    (U32 * 18446744073709551616 + (un1 * 4294967296 + un0)) / Y = (U32 * 4294967296 + un1) / Y * 4294967296 + ((U32 * 4294967296 + un1) % Y * 4294967296 + un0) / Y ∧
    (U32 * 18446744073709551616 + (un1 * 4294967296 + un0)) % Y = ((U32 * 4294967296 + un1) % Y * 4294967296 + un0) % Y := by
  have e : U32 * 18446744073709551616 + (un1 * 4294967296 + un0) = ((U32 * 4294967296 + un1) % Y * 4294967296 + un0) + Y * ((U32 * 4294967296 + un1) / Y * 4294967296) := by
    have h := Nat.div_add_mod (U32 * 4294967296 + un1) Y
    rw [← Nat.mul_assoc]
    generalize Y * ((U32 * 4294967296 + un1) / Y) = t at *
    generalize (U32 * 4294967296 + un1) % Y = r at *
    omega
  rw [e, Nat.add_mul_div_left _ _ hY, Nat.add_mul_mod_self_left]
  exact ⟨Nat.add_comm _ _, rfl⟩

theorem div64_math (hi lo y P Q : Nat) (hPQ : P * Q = 18446744073709551616) (hy : 0 < y) :
    let U := hi * P + lo / Q
    let V := lo * P % 18446744073709551616
    let Y := y * P
    (U * 4294967296 + V / 4294967296) / Y * 4294967296 + ((U * 4294967296 + V / 4294967296) % Y * 4294967296 + V % 4294967296) / Y = (hi * 18446744073709551616 + lo) / y ∧
    ((U * 4294967296 + V / 4294967296) % Y * 4294967296 + V % 4294967296) % Y / P = (hi * 18446744073709551616 + lo) % y := by
  intro U V Y
  have hP : 0 < P := by
    rcases Nat.eq_zero_or_pos P with h | h
    · rw [h, Nat.zero_mul] at hPQ; omega
    · exact h
  have hY : 0 < Y := Nat.mul_pos hy hP
  have h2 := two_steps U (V / 4294967296) (V % 4294967296) Y hY
  have e : U * 18446744073709551616 + (V / 4294967296 * 4294967296 + V % 4294967296) = (hi * 18446744073709551616 + lo) * P := by
    have h1 := shift_split lo P Q hPQ
    have h3 : V / 4294967296 * 4294967296 + V % 4294967296 = V := Nat.div_add_mod' _ _
    rw [h3]
    show (hi * P + lo / Q) * 18446744073709551616 + lo * P % 18446744073709551616 = _
    rw [Nat.add_mul, Nat.add_mul, Nat.add_assoc, h1, Nat.mul_right_comm]
  rw [e] at h2
  rw [← h2.1, ← h2.2]
  refine ⟨Nat.mul_div_mul_right _ _ hP, ?_⟩
  rw [Nat.mul_mod_mul_right, Nat.mul_div_cancel _ hP]
/-- What 64 bits with a sign hold. -/
def I64 (x : Int) : Prop := -9223372036854775808 ≤ x ∧ x ≤ 9223372036854775807

/-- The two words of a sum. -/
def loW (s : Int) : Int := s % 18446744073709551616
def hiW (s : Int) : Int := s / 18446744073709551616 % 18446744073709551616
theorem loW_bd (s : Int) : 0 ≤ loW s ∧ loW s < 18446744073709551616 := by unfold loW; omega
theorem hiW_bd (s : Int) : 0 ≤ hiW s ∧ hiW s < 18446744073709551616 := by unfold hiW; omega
/-- a word of an int: itself, or 2^64 more. -/
theorem loW_add (s a : Int) : (loW s + loW a) % 18446744073709551616 = loW (s + a) := by unfold loW; omega
theorem hiW_add (s a : Int) (h : I64 a) : (hiW s + (loW (a / 9223372036854775808) + (loW s + loW a) / 18446744073709551616)) % 18446744073709551616 = hiW (s + a) := by
  unfold hiW loW; unfold I64 at h
  have key : (s + a) / 18446744073709551616 = s / 18446744073709551616 + a / 9223372036854775808 + (s % 18446744073709551616 + a % 18446744073709551616) / 18446744073709551616 := by
    by_cases h0 : a < 0
    · have e1 : a / 9223372036854775808 = -1 := by omega
      have e2 : a % 18446744073709551616 = a + 18446744073709551616 := by omega
      rw [e1, e2]; omega
    · have e1 : a / 9223372036854775808 = 0 := by omega
      have e2 : a % 18446744073709551616 = a := by omega
      rw [e1, e2]; omega
  rw [key]
  generalize (s % 18446744073709551616 + a % 18446744073709551616) / 18446744073709551616 = c
  generalize s / 18446744073709551616 = p
  generalize a / 9223372036854775808 = q
  omega
/-- The carry of two words. -/
def cW (s a : Int) : Int := (loW s + loW a) / 18446744073709551616
theorem cW_bd (s a : Int) : 0 ≤ cW s a ∧ cW s a ≤ 1 := by have := loW_bd s; have := loW_bd a; unfold cW; omega
theorem hiW_step (s a : Int) (h : I64 a) : (hiW s + (a / 9223372036854775808 % 18446744073709551616 + cW s a) % 18446744073709551616) % 18446744073709551616 = hiW (s + a) := by
  rw [← hiW_add s a h]
  unfold cW
  generalize (loW s + loW a) / 18446744073709551616 = c
  unfold loW
  generalize a / 9223372036854775808 = q
  generalize hiW s = p
  omega
theorem sum_fits (s : Int) (h : -170141183460469231731687303715884105728 ≤ s ∧ s < 170141183460469231731687303715884105728) (x : Int)
    (hx : x = if loW s < 9223372036854775808 then loW s else loW s - 18446744073709551616) :
    (hiW s = loW (x / 9223372036854775808) ↔ I64 s) ∧ (I64 s → x = s) := by
  unfold hiW loW at *; unfold I64
  split at hx <;> omega
/-- One more, where what was cut off is more than a half, or is it and the whole is odd. -/
def upOf (w r d : Int) : Int := if 2 * r > d ∨ (2 * r = d ∧ w % 2 = 1) then 1 else 0
/-- The size of a part, rounded. -/
def partOf (m n d : Int) : Int := m * n / d + upOf (m * n / d) (m * n % d) d
def absI (a : Int) : Int := if a < 0 then -a else a
def ratioOk (a n d : Int) : Prop := partOf (absI a) n d ≤ 9223372036854775807 + (if a < 0 then 1 else 0)
def ratioV (a n d : Int) : Int := if a < 0 then -(partOf (absI a) n d) else partOf (absI a) n d

theorem absI_nonneg (a : Int) : 0 ≤ absI a := by unfold absI; split <;> omega
theorem absI_neg (a : Int) : absI (-a) = absI a := by unfold absI; split <;> split <;> omega
theorem upOf_bd (w r d : Int) : 0 ≤ upOf w r d ∧ upOf w r d ≤ 1 := by unfold upOf; split <;> omega

theorem near (m n d : Int) (hd : 1 ≤ d) : let t := partOf m n d
    2 * (m * n - t * d) ≤ d ∧ -d ≤ 2 * (m * n - t * d) ∧ ((2 * (m * n - t * d) = d ∨ 2 * (m * n - t * d) = -d) → t % 2 = 0) := by
  intro t
  have e := Int.mul_ediv_add_emod (m * n) d
  have l0 := Int.emod_nonneg (m * n) (b := d) (by omega)
  have l1 := Int.emod_lt_of_pos (m * n) (b := d) (by omega)
  have ht : t = m * n / d + upOf (m * n / d) (m * n % d) d := rfl
  generalize m * n = p at *
  generalize p / d = w at *
  generalize p % d = r at *
  have hm : t * d = d * w + upOf w r d * d := by rw [ht, Int.add_mul, Int.mul_comm w d]
  rw [hm]
  clear_value t
  subst ht
  generalize d * w = dw at *
  unfold upOf
  split
  · rename_i h
    rw [Int.one_mul]
    omega
  · rename_i h
    rw [Int.zero_mul]
    omega

theorem part_all (m d : Int) (hd : 1 ≤ d) : partOf m d d = m := by
  have e1 : m * d / d = m := Int.mul_ediv_cancel m (by omega)
  have e2 : m * d % d = 0 := Int.mul_emod_left m d
  unfold partOf upOf
  rw [e1, e2, if_neg (by omega)]
  omega

theorem part_bd (m n d : Int) (h0 : 0 ≤ m) (h1 : m ≤ 1000000000) (h2 : 0 ≤ n) (h3 : n ≤ 1000000000) (hd : 1 ≤ d) : 0 ≤ partOf m n d ∧ partOf m n d ≤ 1000000000000000001 := by
  have a := Int.mul_nonneg h0 h2
  have b : m * n ≤ 1000000000 * 1000000000 := Int.mul_le_mul h1 h3 h2 (by omega)
  have c := Int.ediv_nonneg a (by omega : (0 : Int) ≤ d)
  have e : m * n / d ≤ m * n := Int.ediv_le_self _ a
  have u := upOf_bd (m * n / d) (m * n % d) d
  unfold partOf
  omega

theorem part_nonneg (m n d : Int) (h0 : 0 ≤ m) (h2 : 0 ≤ n) (hd : 1 ≤ d) : 0 ≤ partOf m n d := by
  have a := Int.mul_nonneg h0 h2
  have c := Int.ediv_nonneg a (by omega : (0 : Int) ≤ d)
  have u := upOf_bd (m * n / d) (m * n % d) d
  unfold partOf
  omega

/-- MoneyRounds' facts. -/
theorem rounds_facts (a n d : Int) (ha : -1000000000 ≤ a ∧ a ≤ 1000000000) (hn : 0 ≤ n ∧ n ≤ 1000000000) (hd : 1 ≤ d) :
    ratioOk a n d ∧ ratioOk (-a) n d ∧ ratioOk a d d ∧ ratioV (-a) n d = -ratioV a n d ∧ ratioV a d d = a ∧
    2 * (a * n - ratioV a n d * d) ≤ d ∧ -d ≤ 2 * (a * n - ratioV a n d * d) ∧ ((2 * (a * n - ratioV a n d * d) = d ∨ 2 * (a * n - ratioV a n d * d) = -d) → ratioV a n d % 2 = 0) := by
  have hm0 := absI_nonneg a
  have hm1 : absI a ≤ 1000000000 := by unfold absI; split <;> omega
  have b := part_bd (absI a) n d hm0 hm1 hn.1 hn.2 hd
  have p := part_all (absI a) d hd
  have nr := near (absI a) n d hd
  simp only at nr
  refine ⟨?_, ?_, ?_, ?_, ?_, ?_⟩
  · unfold ratioOk; split <;> omega
  · unfold ratioOk; rw [absI_neg]; split <;> omega
  · unfold ratioOk; rw [p]; split <;> omega
  · unfold ratioV; rw [absI_neg]
    by_cases h : a < 0
    · rw [if_pos h, if_neg (by omega)]; omega
    · rw [if_neg h]
      by_cases h' : -a < 0
      · rw [if_pos h']
      · have : a = 0 := by omega
        rw [if_neg h']
        subst this
        have : partOf (absI 0) n d = 0 := by
          unfold absI partOf upOf; rw [if_neg (by omega)]; simp; omega
        omega
  · unfold ratioV; rw [p]; unfold absI; split <;> omega
  · unfold ratioV
    have e : a * n = if a < 0 then -(absI a * n) else absI a * n := by
      unfold absI; split
      · rw [Int.neg_mul, Int.neg_neg]
      · rfl
    rw [e]
    generalize absI a * n = x at *
    generalize hpt : partOf (absI a) n d = t at *
    by_cases h : a < 0
    · simp only [if_pos h, Int.neg_mul]
      generalize t * d = y at *
      omega
    · simp only [if_neg h]
      generalize t * d = y at *
      omega
end Go.Proofs.YtpohlhejeaafdaaGreatDoor.Math

namespace Go.Proofs.YtpohlhejeaafdaaGreatDoor
set_option linter.unusedVariables false
open Go.RowKit Math

theorem add64_any (x y : Int) (hx : 0 ≤ x) (hy : 0 ≤ y) (hx2 : x < 18446744073709551616) (hy2 : y < 18446744073709551616) (w : World) :
    (callFunc 52 #[.int .u64 x, .int .u64 y, .int .u64 0]).run Tryz.prog w =
      .ok (.value (.tuple #[.int .u64 ((x + y) % 18446744073709551616), .int .u64 ((x + y) / 18446744073709551616)])) w := by
  obtain ⟨x, rfl⟩ := Int.eq_ofNat_of_zero_le hx
  obtain ⟨y, rfl⟩ := Int.eq_ofNat_of_zero_le hy
  rw [run_callFunc_extern Tryz.func52 (by kernel_rfl) (by kernel_rfl) (by kernel_rfl) (e := add64Entry) (by kernel_rfl)]
  have h := run_add64 (P := Tryz.prog) x y 0 (by omega) (by omega) (by omega) (by omega) w
  rw [h]
  simp only [Result.andThen, Int.add_zero]

theorem add64_w (s x : Int) (w : World) : (callFunc 52 #[.int .u64 (loW s), .int .u64 (IntKind.u64.wrap x), .int .u64 0]).run Tryz.prog w =
      .ok (.value (.tuple #[.int .u64 (loW (s + x)), .int .u64 (cW s x)])) w := by
  have b1 := loW_bd s
  have b2 := loW_bd x
  have e : IntKind.u64.wrap x = loW x := IntKind.wrap_u64 x
  rw [e, add64_any _ _ b1.1 b2.1 b1.2 b2.2, loW_add]
  rfl

theorem take_sum (l : List Int) (k : Nat) (h : k < l.length) : (l.take (k + 1)).sum = (l.take k).sum + l.getD k 0 := by
  rw [List.take_succ_eq_append_getElem h, List.sum_append]
  simp [h]

/-- What is handed back beside a sum. -/
def sumV (s : Int) : Int := if -9223372036854775808 ≤ s ∧ s ≤ 9223372036854775807 then s else 0
def sumE (s : Int) : Value := if -9223372036854775808 ≤ s ∧ s ≤ 9223372036854775807 then .nilIface else .iface 60 (.int .i64 10)

theorem sum_bound (l : List Int) (k : Nat) (h : k ≤ l.length) (hI : ∀ i, i < l.length → I64 (l.getD i 0)) :
    -((k : Int) * 9223372036854775808) ≤ (l.take k).sum ∧ (l.take k).sum ≤ (k : Int) * 9223372036854775808 := by
  induction k with
  | zero => simp
  | succ k ih =>
    have := ih (by omega)
    have h2 := hI k (by omega)
    unfold I64 at h2
    rw [take_sum l k (by omega)]
    omega

theorem wrap64_lo (s : Int) : wrap64 (loW s) = if loW s < 9223372036854775808 then loW s else loW s - 18446744073709551616 := by
  have := loW_bd s
  unfold wrap64; split <;> omega
theorem sum_yes (s : Int) (h : -170141183460469231731687303715884105728 ≤ s ∧ s < 170141183460469231731687303715884105728) (hs : -9223372036854775808 ≤ s ∧ s ≤ 9223372036854775807) :
    (hiW s != IntKind.u64.wrap (wrap64 (loW s) / 9223372036854775808)) = false ∧ wrap64 (loW s) = s := by
  have hf := sum_fits s h _ rfl
  rw [← wrap64_lo] at hf
  rw [IntKind.wrap_u64]
  exact ⟨by rw [bne_eq_false_iff_eq]; exact hf.1.2 hs, hf.2 hs⟩
theorem sum_no (s : Int) (h : -170141183460469231731687303715884105728 ≤ s ∧ s < 170141183460469231731687303715884105728) (hs : ¬ (-9223372036854775808 ≤ s ∧ s ≤ 9223372036854775807)) :
    (hiW s != IntKind.u64.wrap (wrap64 (loW s) / 9223372036854775808)) = true := by
  have hf := sum_fits s h _ rfl
  rw [← wrap64_lo] at hf
  rw [IntKind.wrap_u64, bne_iff_ne]
  exact fun e => hs (hf.1.1 e)

theorem sum_run (b off cap n : Nat) (l : List Int) (w : World) (hn : l.length = n) (hlen : l.length ≤ 140737488355328) (hI : Hid (∀ i, i < l.length → I64 (l.getD i 0)))
    (hc : Hid (∀ i, i < l.length → w.cell? ⟨b, off + i, none⟩ = some (.int .i64 (l.getD i 0)))) :
    Calls Tryz.prog 36 #[.slice (some ⟨b, off, none⟩) n cap] w fun e w' => e = .returned (.tuple #[.int .i64 (sumV l.sum), sumE l.sum]) ∧ w' = w := by
  subst hn
  go_enter Tryz.func36, Tryz.ntmps36
  go_wp2
  go_loop [4, 5, 12] (fun hi lo i => ∃ k : Nat, k ≤ l.length ∧ i = .int .i64 k ∧ hi = .int .u64 (hiW (l.take k).sum) ∧ lo = .int .u64 (loW (l.take k).sum)) (fun _ _ i => l.length - (RowKit.intOf i).toNat)
  case atStart => exact ⟨0, Nat.zero_le _, rfl, rfl, rfl⟩
  case round =>
    obtain ⟨k, hk, rfl, rfl, rfl⟩ := hrel
    by_cases hlt : k < l.length
    · have hck := hc.out k hlt
      have hik := hI.out k hlt
      have hts := take_sum l k hlt
      generalize l.getD k 0 = x at *
      generalize (l.take k).sum = s at *
      have Hts : Hid ((l.take (k + 1)).sum = s + x) := hts
      have Hik : Hid (I64 x) := hik
      clear hts hik
      go_wp2_with (simp only [add64_w])
      go_round
      case rel =>
        refine ⟨k + 1, by omega, by go_num, ?_, ?_⟩
        · rw [Hts.out, IntKind.wrap_u64, IntKind.wrap_u64, IntKind.wrap_u64, ← hiW_step s x Hik.out]
        · rw [Hts.out]
      case measure => simp [RowKit.intOf]; omega
    · have hk2 : k = l.length := by omega
      subst hk2
      have hb := sum_bound l l.length (Nat.le_refl _) hI.out
      rw [List.take_length] at hb ⊢
      by_cases hs : -9223372036854775808 ≤ l.sum ∧ l.sum ≤ 9223372036854775807
      · obtain ⟨t1, t2⟩ := sum_yes l.sum (by omega) hs
        have T2 : Hid (wrap64 (loW l.sum) = l.sum) := t2
        have Hs : Hid (-9223372036854775808 ≤ l.sum ∧ l.sum ≤ 9223372036854775807) := hs
        clear t2 hb hI hc hs
        go_wp2
        go_ret2
        refine ⟨?_, rfl⟩
        unfold sumV sumE; rw [if_pos Hs.out, if_pos Hs.out]
        show Ending.returned (.tuple #[.int .i64 (wrap64 (loW l.sum)), .nilIface]) = _
        rw [T2.out]
      · have t1 := sum_no l.sum (by omega) hs
        have Hs : Hid (¬ (-9223372036854775808 ≤ l.sum ∧ l.sum ≤ 9223372036854775807)) := hs
        clear hb hI hc hs
        go_wp2
        go_ret2
        refine ⟨?_, rfl⟩
        unfold sumV sumE; rw [if_neg Hs.out, if_neg Hs.out]; rfl

theorem sum_nil (w : World) :
    Calls Tryz.prog 36 #[.slice none 0 0] w fun e w' => e = .returned (.tuple #[.int .i64 0, .nilIface]) ∧ w' = w := by
  go_enter Tryz.func36, Tryz.ntmps36
  go_wp2
  refine wp_loop_rounds 1 ?_
  rw [rounds_succ]
  go_wp2
  go_ret2
  exact ⟨rfl, rfl⟩

theorem sum_zero (a : Option Addr) (cap : Nat) (w : World) :
    Calls Tryz.prog 36 #[.slice a 0 cap] w fun e w' => e = .returned (.tuple #[.int .i64 0, .nilIface]) ∧ w' = w := by
  go_enter Tryz.func36, Tryz.ntmps36
  go_wp2
  refine wp_loop_rounds 1 ?_
  rw [rounds_succ]
  go_wp2
  go_ret2
  exact ⟨rfl, rfl⟩

/-- Of a list in the call's own memory. -/
theorem sum_own (base n : Nat) (e : TypeId) (v : Value) (l : List Int) (w : World) (hlen : n ≤ 140737488355328) (hI : Hid (∀ i, i < l.length → I64 (l.getD i 0)))
    (hown : Hid (w.ownsRow base e 1 v n (l.map (Value.int .i64)))) :
    Calls Tryz.prog 36 #[v] w fun e w' => e = .returned (.tuple #[.int .i64 (sumV l.sum), sumE l.sum]) ∧ w' = w := by
  obtain ⟨hl, ⟨rfl, hn⟩ | ⟨g, cap, cur, rfl, hg⟩⟩ := hown.out
  · have : l = [] := by
      subst hn; simpa using hl
    subst this
    exact sum_nil w
  · have hn : l.length = n := by simpa using hl
    refine sum_run g 0 cap n l w hn (by omega) hI ?_
    intro i hi
    have := hown.out.cells (g := g) rfl i (.int .i64 (l.getD i 0)) (by simp [hi])
    rcases Nat.eq_zero_or_pos i with rfl | hp
    · simpa [Addr.add] using this
    · simpa [Addr.add, Nat.ne_of_gt hp] using this

theorem sum_fit (s : Int) (h : -9223372036854775808 ≤ s ∧ s ≤ 9223372036854775807) : sumV s = s ∧ sumE s = .nilIface := by
  unfold sumV sumE; rw [if_pos h, if_pos h]; exact ⟨rfl, rfl⟩
theorem sum_nofit (s : Int) (h : ¬ (-9223372036854775808 ≤ s ∧ s ≤ 9223372036854775807)) : sumV s = 0 ∧ sumE s = .iface 60 (.int .i64 10) := by
  unfold sumV sumE; rw [if_neg h, if_neg h]; exact ⟨rfl, rfl⟩

end Go.Proofs.YtpohlhejeaafdaaGreatDoor
